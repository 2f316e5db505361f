/-
  offsidelaw09's own law LayoutGoes, where the program's All, Next and Close do what is told of them by the structure Does9. No condition but that.
-/
import Derived.Test.YtmcdclhfjjplnaaLayNxw
namespace Go.Proofs.Ytmcdclhfjjplnaa.Lay
open Tks Mrk Go.RowKit
set_option linter.unusedSimpArgs false
set_option linter.unusedVariables false

theorem goes_no {s : Sx} (h : okB s = false) : nextS s = (zeroT, zeroS, 1) ∧ closeS s = (zeroS, false) := by
  unfold nextS closeS
  rw [if_neg (by rw [h]; decide), if_neg (by rw [h]; simp)]
  exact ⟨rfl, rfl⟩
theorem goes_next {s : Sx} (h : okB s = true) : okB (nextS s).2.1 = true ∧ ((nextS s).2.2 = 0 ∨ (nextS s).2.2 = 90) := by
  obtain ⟨n, hn, hok⟩ := (okB_iff s).1 h
  unfold nextS
  rw [if_pos h]
  have hi : s.at_.toNat = n := by omega
  dsimp only
  rw [hi]
  exact ⟨(okB_iff _).2 ⟨_, rfl, (next_ok hok).1⟩, (next_ok hok).2⟩
theorem goes_close {s : Sx} (h : okB s = true) : closeS s = (zeroS, false) ∨ ((closeS s).2 = true ∧ okB (closeS s).1 = true ∧ (closeS s).1.opn.length + 1 = s.opn.length) := by
  unfold closeS
  split
  · rename_i q
    rw [Bool.and_eq_true, Bool.and_eq_true, decide_eq_true_eq] at q
    refine .inr ⟨rfl, ?_, ?_⟩
    · obtain ⟨n, hn, hok⟩ := (okB_iff s).1 h
      exact (okB_iff _).2 ⟨n, hn, hok.at_, fun c hc => hok.opn c (dropLast_mem hc), hok.wlo, hok.whi, hok.wat⟩
    · have := List.length_pos_iff.2 (top_ne q.2.2)
      dsimp only
      rw [List.length_dropLast]
      omega
  · exact .inl rfl
theorem goes_err {s : Sx} (h : okB s = true) : (((nextS s).2.2 == 1) = false) := by
  rcases (goes_next h).2 with e | e <;> rw [e] <;> rfl
set_option maxRecDepth 1000000 in
set_option maxHeartbeats 8000000 in
theorem goes_walk (D : Does9) (v : Value) (s : Sx) (w : World) (hv : StV w v s) :
    Calls Try.prog 8 #[v] w fun e w' => e = .returned (.bool true) ∧ Below w.heap.size w w' := by
  have C0 := Lib.hid (fun W => awake9_any D W)
  have HV := Lib.hid hv
  have D1 := Lib.hid D.next
  have D2 := Lib.hid D.close
  obtain ⟨vt, vo, rfl, ht, ho⟩ := hv
  obtain ⟨p1, q1, rfl⟩ := ht.len
  obtain ⟨p2, q2, rfl⟩ := ho.len
  have CS : Hid (∀ W, Below w.heap.size w W → Calls Try.prog 9 #[.slice p1 s.toks.length q1] W fun e w' => e = .returned (.bool (decide (s.toks.length ≤ 3000))) ∧ Below W.heap.size W w') := fun W h => small_any _ s.toks W (ht.below h (Nat.le_refl _))
  clear D ht ho
  by_cases h1 : s.toks.length ≤ 3000
  · have x1 : decide (s.toks.length ≤ 3000) = true := decide_eq_true h1
    rw [x1] at CS
    by_cases h2 : s.opn.length ≤ 3000
    · have hf : Fit9 s := ⟨by omega, by omega⟩
      have x2 : decide ((3000 : Int) < (s.opn.length : Int)) = false := decide_eq_false (by omega)
      have x3 : decide (3000 < s.opn.length) = false := decide_eq_false (by omega)
      have F1 := next_fit h1 h2
      have F2 := close_fit h1 h2
      have HSO := Lib.hid h2
      cases hk : okB s with
      | false =>
        obtain ⟨g1, g2⟩ := goes_no hk
        have C1 : Hid (∀ W, Below w.heap.size w W → Calls Try.prog 11 #[.agg #[.slice p1 s.toks.length q1, .int .i64 s.at_, .slice p2 s.opn.length q2, .int .i64 s.wait]] W fun e w' => ∃ v, e = .returned (.tuple #[.agg #[.int .i64 0, .string ⟨#[]⟩, .int .i64 0, .int .i64 0], v, .int .i64 1]) ∧ StV w' v zeroS ∧ Below W.heap.size W w') := fun W h => by
          have := D1.out _ s W (HV.out.below h (Nat.le_refl _)) hf
          unfold NextOut at this
          rw [g1] at this
          exact this
        have C2 : Hid (∀ W, Below w.heap.size w W → Calls Try.prog 14 #[.agg #[.slice p1 s.toks.length q1, .int .i64 s.at_, .slice p2 s.opn.length q2, .int .i64 s.wait]] W fun e w' => ∃ v, e = .returned (.tuple #[v, .bool false]) ∧ StV w' v zeroS ∧ Below W.heap.size W w') := fun W h => by
          have := D2.out _ s W (HV.out.below h (Nat.le_refl _)) hf
          unfold CloseOut at this
          rw [g2] at this
          exact this
        clear h1 h2 hf x1 D1 D2 hk g1 g2 F1 F2
        go_enter Try.func8, Try.ntmps8
        go_upto_region 5 with (first
          | (go_at_call 10; refine (C0.out _).mono ?_; rintro e w1 ⟨rfl, b1⟩; have L1 := Lib.hid ((Lies.new w (stO (.slice p1 s.toks.length q1) s.at_ (.slice p2 s.opn.length q2) s.wait)).below b1 (by rw [World.size_alloc]; omega)); have B1 := Lib.hid (afterL (below_one w _) b1); clear b1; obtain ⟨c0, c1, c2, c3, -⟩ := L1.out.four)
          | (go_at_call 9; refine (CS.out _ B1.out).mono ?_; rintro e w2 ⟨rfl, b2⟩; clear c0 c1 c2 c3; have L2 := Lib.hid (L1.out.below b2 L1.out.lt); have B2 := Lib.hid (afterL B1.out b2); clear b2; obtain ⟨c0, c1, c2, c3, -⟩ := L2.out.four)
          | (go_at_call 11; refine (C1.out _ B2.out).mono ?_; rintro e w3 ⟨v3, rfl, s3, b3⟩; obtain ⟨vt3, vo3, e5, t3, o3⟩ := s3; obtain ⟨p3, q3, e6⟩ := t3.len; obtain ⟨p4, q4, e7⟩ := o3.len; rw [e6, e7] at e5; have e5 : v3 = .agg #[.slice p3 0 q3, .int .i64 0, .slice p4 0 q4, .int .i64 0] := e5; subst e5; have L3 := Lib.hid (L2.out.below b3 L2.out.lt); have B3 := Lib.hid (afterL B2.out b3); clear b3 t3 o3 e6 e7))
        clear c0 c1 c2 c3
        refine world_new (fun Y => Lies Y w.heap.size (stO (.slice p1 s.toks.length q1) s.at_ (.slice p2 s.opn.length q2) s.wait) ∧ Lies Y w3.heap.size (tkO ⟨0, ⟨#[]⟩, 0, 0⟩) ∧ Lies Y (w3.heap.size + 1) (stO (.slice p3 0 q3) 0 (.slice p4 0 q4) 0) ∧ Below w3.heap.size w3 Y) ⟨(L3.out.alloc _).alloc _, (two_lie w3 _ _).1, (two_lie w3 _ _).2, below_two w3 _ _⟩ ?_
        rintro Y ⟨l1, l2, l3, bY⟩
        have BY := Lib.hid (afterL B3.out bY)
        have L4 := Lib.hid l1
        have M4 := Lib.hid l2
        have N4 := Lib.hid l3
        clear l1 l2 l3 bY
        generalize w3.heap.size + 1 = K1b at *
        generalize w3.heap.size = K1 at *
        obtain ⟨c0, c1, c2, c3, -⟩ := L4.out.four
        go_upto_region 6 with (first
          | (go_at_call 14; refine (C2.out _ BY.out).mono ?_; rintro e w4 ⟨v4, rfl, s4, b4⟩; obtain ⟨vt4, vo4, e5, t4, o4⟩ := s4; obtain ⟨p5, q5, e6⟩ := t4.len; obtain ⟨p6, q6, e7⟩ := o4.len; rw [e6, e7] at e5; have e5 : v4 = .agg #[.slice p5 0 q5, .int .i64 0, .slice p6 0 q6, .int .i64 0] := e5; subst e5; have M5 := Lib.hid (M4.out.below b4 M4.out.lt); have N5 := Lib.hid (N4.out.below b4 N4.out.lt); have B4 := Lib.hid (afterL BY.out b4); clear b4 t4 o4 e6 e7))
        clear c0 c1 c2 c3
        refine world_new (fun Z => Lies Z K1 (tkO ⟨0, ⟨#[]⟩, 0, 0⟩) ∧ Lies Z K1b (stO (.slice p3 0 q3) 0 (.slice p4 0 q4) 0) ∧ Below w4.heap.size w4 Z) ⟨M5.out.alloc _, N5.out.alloc _, below_one w4 _⟩ ?_
        rintro Z ⟨l1, l2, bZ⟩
        have BZ := Lib.hid (afterL B4.out bZ)
        obtain ⟨c0, c1, c2, c3, -⟩ := lies_tok l1
        obtain ⟨d0, d1, d2, d3, -⟩ := l2.four
        dsimp only at c0 c1 c2 c3
        clear l1 l2 bZ
        generalize w4.heap.size = K2 at *
        go_wp2_with fail
        go_ret
        exact ⟨rfl, BZ.out⟩
      | true =>
        have C1 := Lib.hid (fun W (h : Below w.heap.size w W) => D1.out _ s W (HV.out.below h (Nat.le_refl _)) hf)
        have C2 := Lib.hid (fun W (h : Below w.heap.size w W) => D2.out _ s W (HV.out.below h (Nat.le_refl _)) hf)
        have C3 := Lib.hid (fun va W h => D1.out va (nextS s).2.1 W h F1)
        have G1 := goes_err hk
        have G2 := goes_err (goes_next hk).1
        have G3 := (goes_next hk).2
        unfold NextOut tkV9 at C1 C3
        unfold CloseOut at C2
        rcases goes_close hk with hc | ⟨hc1, hc2, hc3⟩
        · rw [hc] at C2
          dsimp only at C2
          generalize nextS s = ns at *
          obtain ⟨⟨nk, nt, nl, nc⟩, a, ne⟩ := ns
          dsimp only at C1 C3 G1 G2 G3
          generalize nextS a = na at *
          obtain ⟨⟨mk, mt, ml, mc⟩, aa, me⟩ := na
          dsimp only at C3 G2
          have y1 : (ne == 90 || ne == 0) = true := by rcases G3 with e | e <;> rw [e] <;> rfl
          clear h1 h2 hf x1 D1 D2 hk F1 F2 hc
          go_enter Try.func8, Try.ntmps8
          go_upto_region 5 with (first
            | (go_at_call 10; refine (C0.out _).mono ?_; rintro e w1 ⟨rfl, b1⟩; have L1 := Lib.hid ((Lies.new w (stO (.slice p1 s.toks.length q1) s.at_ (.slice p2 s.opn.length q2) s.wait)).below b1 (by rw [World.size_alloc]; omega)); have B1 := Lib.hid (afterL (below_one w _) b1); clear b1; obtain ⟨c0, c1, c2, c3, -⟩ := L1.out.four)
            | (go_at_call 9; refine (CS.out _ B1.out).mono ?_; rintro e w2 ⟨rfl, b2⟩; clear c0 c1 c2 c3; have L2 := Lib.hid (L1.out.below b2 L1.out.lt); have B2 := Lib.hid (afterL B1.out b2); clear b2; obtain ⟨c0, c1, c2, c3, -⟩ := L2.out.four)
            | (go_at_call 11; refine (C1.out _ B2.out).mono ?_; rintro e w3 ⟨v3, rfl, s3, b3⟩; have A3 := Lib.hid s3; obtain ⟨vt3, vo3, rfl, t3, o3⟩ := s3; obtain ⟨p3, q3, rfl⟩ := t3.len; obtain ⟨p4, q4, rfl⟩ := o3.len; have L3 := Lib.hid (L2.out.below b3 L2.out.lt); have B3 := Lib.hid (afterL B2.out b3); clear b3 t3 o3))
          clear c0 c1 c2 c3
          refine world_new (fun Y => Lies Y w.heap.size (stO (.slice p1 s.toks.length q1) s.at_ (.slice p2 s.opn.length q2) s.wait) ∧ Lies Y (w3.heap.size + 1) (stO (.slice p3 a.toks.length q3) a.at_ (.slice p4 a.opn.length q4) a.wait) ∧ Below w3.heap.size w3 Y) ⟨(L3.out.alloc _).alloc _, (two_lie w3 _ _).2, below_two w3 _ _⟩ ?_
          rintro Y ⟨l1, l3, bY⟩
          have BY := Lib.hid (afterL B3.out bY)
          have A4 := Lib.hid (A3.out.below bY (Nat.le_refl _))
          have L4 := Lib.hid l1
          have N4 := Lib.hid l3
          clear l1 l3 bY
          generalize w3.heap.size + 1 = K1b at *
          generalize w3.heap.size = K1 at *
          obtain ⟨c0, c1, c2, c3, -⟩ := L4.out.four
          go_upto_region 6 with (first
            | (go_at_call 14; refine (C2.out _ BY.out).mono ?_; rintro e w4 ⟨v4, rfl, s4, b4⟩; obtain ⟨vt4, vo4, e5, t4, o4⟩ := s4; obtain ⟨p5, q5, e6⟩ := t4.len; obtain ⟨p6, q6, e7⟩ := o4.len; rw [e6, e7] at e5; have e5 : v4 = .agg #[.slice p5 0 q5, .int .i64 0, .slice p6 0 q6, .int .i64 0] := e5; subst e5; have L5 := Lib.hid (L4.out.below b4 L4.out.lt); have N5 := Lib.hid (N4.out.below b4 N4.out.lt); have A5 := Lib.hid (A4.out.below b4 (Nat.le_refl _)); have B4 := Lib.hid (afterL BY.out b4); clear b4 t4 o4 e6 e7))
          clear c0 c1 c2 c3
          refine world_new (fun Z => Lies Z K1b (stO (.slice p3 a.toks.length q3) a.at_ (.slice p4 a.opn.length q4) a.wait) ∧ Lies Z w4.heap.size (stO (.slice p5 0 q5) 0 (.slice p6 0 q6) 0) ∧ Below w4.heap.size w4 Z) ⟨N5.out.alloc _, Lies.new w4 _, below_one w4 _⟩ ?_
          rintro Z ⟨l1, l2, bZ⟩
          have BZ := Lib.hid (afterL B4.out bZ)
          have A6 := Lib.hid (A5.out.below bZ (Nat.le_refl _))
          have P6 := Lib.hid l2
          obtain ⟨c0, c1, c2, c3, -⟩ := l1.four
          clear l1 l2 bZ
          generalize w4.heap.size = K2 at *
          go_upto_region 9 with (first
            | (go_at_call 11; refine (C3.out _ _ A6.out).mono ?_; rintro e w5 ⟨v5, rfl, s5, b5⟩; obtain ⟨vt5, vo5, rfl, t5, o5⟩ := s5; obtain ⟨p7, q7, rfl⟩ := t5.len; obtain ⟨p8, q8, rfl⟩ := o5.len; have P7 := Lib.hid (P6.out.below b5 P6.out.lt); have B5 := Lib.hid (afterL BZ.out b5); clear b5 t5 o5))
          clear c0 c1 c2 c3
          refine world_new (fun X => Lies X K2 (stO (.slice p5 0 q5) 0 (.slice p6 0 q6) 0) ∧ Below w5.heap.size w5 X) ⟨(P7.out.alloc _).alloc _, below_two w5 _ _⟩ ?_
          rintro X ⟨l1, bX⟩
          have BX := Lib.hid (afterL B5.out bX)
          obtain ⟨c0, c1, c2, c3, -⟩ := l1.four
          clear l1 bX
          generalize w5.heap.size + 1 = K3b at *
          generalize w5.heap.size = K3 at *
          rcases G3 with rfl | rfl
          · go_wp2_with fail
            go_ret
            exact ⟨rfl, BX.out⟩
          · go_wp2_with fail
            go_ret
            exact ⟨rfl, BX.out⟩
        · have C4 := Lib.hid (fun vb W h => D1.out vb (closeS s).1 W h F2)
          have G4 := goes_err hc2
          unfold NextOut tkV9 at C4
          generalize nextS s = ns at *
          obtain ⟨⟨nk, nt, nl, nc⟩, a, ne⟩ := ns
          dsimp only at C1 C3 G1 G2 G3
          generalize nextS a = na at *
          obtain ⟨⟨mk, mt, ml, mc⟩, aa, me⟩ := na
          dsimp only at C3 G2
          generalize closeS s = cs at *
          obtain ⟨b, isb⟩ := cs
          dsimp only at C2 C4 G4 hc1 hc3
          subst hc1
          generalize nextS b = nb at *
          obtain ⟨⟨ok, ot, ol, oc⟩, bb, oe⟩ := nb
          dsimp only at C4 G4
          have G4n : (oe != 1) = true := by
            rw [bne_iff_ne]
            exact beq_eq_false_iff_ne.1 G4
          obtain ⟨hw1, hw2⟩ := wrap_pred s.opn.length (by omega) (by have := HSO.out; omega)
          have em : s.opn.length - 1 = b.opn.length := by omega
          rw [em] at hw1 hw2
          clear h1 h2 hf x1 D1 D2 hk F1 F2 hc2 hc3 em
          go_enter Try.func8, Try.ntmps8
          go_upto_region 5 with (first
            | (go_at_call 10; refine (C0.out _).mono ?_; rintro e w1 ⟨rfl, b1⟩; have L1 := Lib.hid ((Lies.new w (stO (.slice p1 s.toks.length q1) s.at_ (.slice p2 s.opn.length q2) s.wait)).below b1 (by rw [World.size_alloc]; omega)); have B1 := Lib.hid (afterL (below_one w _) b1); clear b1; obtain ⟨c0, c1, c2, c3, -⟩ := L1.out.four)
            | (go_at_call 9; refine (CS.out _ B1.out).mono ?_; rintro e w2 ⟨rfl, b2⟩; clear c0 c1 c2 c3; have L2 := Lib.hid (L1.out.below b2 L1.out.lt); have B2 := Lib.hid (afterL B1.out b2); clear b2; obtain ⟨c0, c1, c2, c3, -⟩ := L2.out.four)
            | (go_at_call 11; refine (C1.out _ B2.out).mono ?_; rintro e w3 ⟨v3, rfl, s3, b3⟩; have A3 := Lib.hid s3; obtain ⟨vt3, vo3, rfl, t3, o3⟩ := s3; obtain ⟨p3, q3, rfl⟩ := t3.len; obtain ⟨p4, q4, rfl⟩ := o3.len; have L3 := Lib.hid (L2.out.below b3 L2.out.lt); have B3 := Lib.hid (afterL B2.out b3); clear b3 t3 o3))
          clear c0 c1 c2 c3
          refine world_new (fun Y => Lies Y w.heap.size (stO (.slice p1 s.toks.length q1) s.at_ (.slice p2 s.opn.length q2) s.wait) ∧ Lies Y (w3.heap.size + 1) (stO (.slice p3 a.toks.length q3) a.at_ (.slice p4 a.opn.length q4) a.wait) ∧ Below w3.heap.size w3 Y) ⟨(L3.out.alloc _).alloc _, (two_lie w3 _ _).2, below_two w3 _ _⟩ ?_
          rintro Y ⟨l1, l3, bY⟩
          have BY := Lib.hid (afterL B3.out bY)
          have A4 := Lib.hid (A3.out.below bY (Nat.le_refl _))
          have L4 := Lib.hid l1
          have N4 := Lib.hid l3
          clear l1 l3 bY
          generalize w3.heap.size + 1 = K1b at *
          generalize w3.heap.size = K1 at *
          obtain ⟨c0, c1, c2, c3, -⟩ := L4.out.four
          go_upto_region 6 with (first
            | (go_at_call 14; refine (C2.out _ BY.out).mono ?_; rintro e w4 ⟨v4, rfl, s4, b4⟩; have S4 := Lib.hid s4; obtain ⟨vt4, vo4, rfl, t4, o4⟩ := s4; obtain ⟨p5, q5, rfl⟩ := t4.len; obtain ⟨p6, q6, rfl⟩ := o4.len; have L5 := Lib.hid (L4.out.below b4 L4.out.lt); have N5 := Lib.hid (N4.out.below b4 N4.out.lt); have A5 := Lib.hid (A4.out.below b4 (Nat.le_refl _)); have B4 := Lib.hid (afterL BY.out b4); clear b4 t4 o4))
          clear c0 c1 c2 c3
          refine world_new (fun Z => Lies Z w.heap.size (stO (.slice p1 s.toks.length q1) s.at_ (.slice p2 s.opn.length q2) s.wait) ∧ Lies Z K1b (stO (.slice p3 a.toks.length q3) a.at_ (.slice p4 a.opn.length q4) a.wait) ∧ Lies Z w4.heap.size (stO (.slice p5 b.toks.length q5) b.at_ (.slice p6 b.opn.length q6) b.wait) ∧ Below w4.heap.size w4 Z) ⟨L5.out.alloc _, N5.out.alloc _, Lies.new w4 _, below_one w4 _⟩ ?_
          rintro Z ⟨l0, l1, l2, bZ⟩
          have BZ := Lib.hid (afterL B4.out bZ)
          have A6 := Lib.hid (A5.out.below bZ (Nat.le_refl _))
          have S6 := Lib.hid (S4.out.below bZ (Nat.le_refl _))
          have P6 := Lib.hid l2
          have L6 := Lib.hid l0
          obtain ⟨c0, c1, c2, c3, -⟩ := l1.four
          clear l0 l1 l2 bZ
          generalize w4.heap.size = K2 at *
          go_upto_region 9 with (first
            | (go_at_call 11; refine (C3.out _ _ A6.out).mono ?_; rintro e w5 ⟨v5, rfl, s5, b5⟩; obtain ⟨vt5, vo5, rfl, t5, o5⟩ := s5; obtain ⟨p7, q7, rfl⟩ := t5.len; obtain ⟨p8, q8, rfl⟩ := o5.len; have P7 := Lib.hid (P6.out.below b5 P6.out.lt); have L7 := Lib.hid (L6.out.below b5 L6.out.lt); have S7 := Lib.hid (S6.out.below b5 (Nat.le_refl _)); have B5 := Lib.hid (afterL BZ.out b5); clear b5 t5 o5))
          clear c0 c1 c2 c3
          refine world_new (fun X => Lies X w.heap.size (stO (.slice p1 s.toks.length q1) s.at_ (.slice p2 s.opn.length q2) s.wait) ∧ Lies X K2 (stO (.slice p5 b.toks.length q5) b.at_ (.slice p6 b.opn.length q6) b.wait) ∧ Below w5.heap.size w5 X) ⟨(L7.out.alloc _).alloc _, (P7.out.alloc _).alloc _, below_two w5 _ _⟩ ?_
          rintro X ⟨l0, l1, bX⟩
          have BX := Lib.hid (afterL B5.out bX)
          have S8 := Lib.hid (S7.out.below bX (Nat.le_refl _))
          have L8 := Lib.hid l0
          have P8 := Lib.hid l1
          obtain ⟨c0, c1, c2, c3, -⟩ := l1.four
          clear l0 l1 bX
          generalize w5.heap.size + 1 = K3b at *
          generalize w5.heap.size = K3 at *
          rcases G3 with rfl | rfl
          · go_wp2_with (first
              | (go_at_call 11; refine (C4.out _ _ S8.out).mono ?_; rintro e w6 ⟨v6, rfl, s6, b6⟩; clear c0 c1 c2 c3; obtain ⟨vt6, vo6, rfl, t6, o6⟩ := s6; obtain ⟨p9, q9, rfl⟩ := t6.len; obtain ⟨p10, q10, rfl⟩ := o6.len; have hL9 := L8.out.below b6 L8.out.lt; have hP9 := P8.out.below b6 P8.out.lt; have B6 := Lib.hid (afterL BX.out b6); have BF : Hid (∀ o1 o2 : Obj, Below w.heap.size w ((w6.alloc o1).alloc o2)) := fun o1 o2 => afterL B6.out (below_two w6 o1 o2); obtain ⟨c0, c1, c2, c3, -⟩ := hP9.four; obtain ⟨d0, d1, d2, d3, -⟩ := hL9.four; have lp := hP9.lt; have ll := hL9.lt; have c2' := fun (o1 o2 : Obj) => (Lies.four ((hP9.alloc o1).alloc o2)).2.2.1; have d2' := fun (o1 o2 : Obj) => (Lies.four ((hL9.alloc o1).alloc o2)).2.2.1; have nn1 : ¬ K2 = w6.heap.size := (by omega); have nn2 : ¬ w.heap.size = w6.heap.size := (by omega); have nn3 : ¬ K2 = w6.heap.size + 1 := (by omega); have nn4 : ¬ w.heap.size = w6.heap.size + 1 := (by omega); clear hL9 hP9 b6 t6 o6))
            go_ret
            exact ⟨by simp, BF.out _ _⟩
          · go_wp2_with (first
              | (go_at_call 11; refine (C4.out _ _ S8.out).mono ?_; rintro e w6 ⟨v6, rfl, s6, b6⟩; clear c0 c1 c2 c3; obtain ⟨vt6, vo6, rfl, t6, o6⟩ := s6; obtain ⟨p9, q9, rfl⟩ := t6.len; obtain ⟨p10, q10, rfl⟩ := o6.len; have hL9 := L8.out.below b6 L8.out.lt; have hP9 := P8.out.below b6 P8.out.lt; have B6 := Lib.hid (afterL BX.out b6); have BF : Hid (∀ o1 o2 : Obj, Below w.heap.size w ((w6.alloc o1).alloc o2)) := fun o1 o2 => afterL B6.out (below_two w6 o1 o2); obtain ⟨c0, c1, c2, c3, -⟩ := hP9.four; obtain ⟨d0, d1, d2, d3, -⟩ := hL9.four; have lp := hP9.lt; have ll := hL9.lt; have c2' := fun (o1 o2 : Obj) => (Lies.four ((hP9.alloc o1).alloc o2)).2.2.1; have d2' := fun (o1 o2 : Obj) => (Lies.four ((hL9.alloc o1).alloc o2)).2.2.1; have nn1 : ¬ K2 = w6.heap.size := (by omega); have nn2 : ¬ w.heap.size = w6.heap.size := (by omega); have nn3 : ¬ K2 = w6.heap.size + 1 := (by omega); have nn4 : ¬ w.heap.size = w6.heap.size + 1 := (by omega); clear hL9 hP9 b6 t6 o6))
            go_ret
            exact ⟨by simp, BF.out _ _⟩
    · have x2 : decide ((3000 : Int) < (s.opn.length : Int)) = true := decide_eq_true (by omega)
      have x3 : decide (3000 < s.opn.length) = true := decide_eq_true (by omega)
      clear h1 h2 x1 D1 D2
      go_enter Try.func8, Try.ntmps8
      go_wp2_with (first
        | (go_at_call 10; refine (C0.out _).mono ?_; rintro e w1 ⟨rfl, b1⟩; have L1 := Lib.hid ((Lies.new w (stO (.slice p1 s.toks.length q1) s.at_ (.slice p2 s.opn.length q2) s.wait)).below b1 (by rw [World.size_alloc]; omega)); have B1 := Lib.hid (afterL (below_one w _) b1); clear b1; obtain ⟨c0, c1, c2, c3, -⟩ := L1.out.four)
        | (go_at_call 9; refine (CS.out _ B1.out).mono ?_; rintro e w2 ⟨rfl, b2⟩; clear c0 c1 c2 c3; have L2 := Lib.hid (L1.out.below b2 L1.out.lt); have B2 := Lib.hid (afterL B1.out b2); clear b2; obtain ⟨c0, c1, c2, c3, -⟩ := L2.out.four))
      go_ret
      exact ⟨rfl, B2.out⟩
  · have x1 : decide (s.toks.length ≤ 3000) = false := decide_eq_false h1
    rw [x1] at CS
    clear h1 x1 D1 D2
    go_enter Try.func8, Try.ntmps8
    go_wp2_with (first
      | (go_at_call 10; refine (C0.out _).mono ?_; rintro e w1 ⟨rfl, b1⟩; have L1 := Lib.hid ((Lies.new w (stO (.slice p1 s.toks.length q1) s.at_ (.slice p2 s.opn.length q2) s.wait)).below b1 (by rw [World.size_alloc]; omega)); have B1 := Lib.hid (afterL (below_one w _) b1); clear b1; obtain ⟨c0, c1, c2, c3, -⟩ := L1.out.four)
      | (go_at_call 9; refine (CS.out _ B1.out).mono ?_; rintro e w2 ⟨rfl, b2⟩; clear c0 c1 c2 c3; have L2 := Lib.hid (L1.out.below b2 L1.out.lt); have B2 := Lib.hid (afterL B1.out b2); clear b2; obtain ⟨c0, c1, c2, c3, -⟩ := L2.out.four))
    go_ret
    exact ⟨rfl, B2.out⟩
end Go.Proofs.Ytmcdclhfjjplnaa.Lay
