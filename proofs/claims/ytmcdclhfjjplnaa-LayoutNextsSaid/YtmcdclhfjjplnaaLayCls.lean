/-
  The document's own Close at any states. Conditions: at most 2^40 tokens and blocks.
-/
import Derived.Test.YtmcdclhfjjplnaaLayRgt
namespace Go.Proofs.Ytmcdclhfjjplnaa.Lay
open Tks Mrk Go.RowKit
set_option linter.unusedSimpArgs false
set_option linter.unusedVariables false

theorem okB_top {s : Sx} (h : okB s = true) : 0 ≤ topL s.opn := by
  obtain ⟨n, -, h⟩ := (okB_iff s).1 h
  exact topL_nonneg h.opn
set_option maxRecDepth 100000 in
set_option maxHeartbeats 4000000 in
theorem refclose_any (v : Value) (s : Sx) (w : World) (hv : StV w v s) (hf : Fit9 s) :
    Calls Try.prog 15 #[v] w (CloseOut w s) := by
  have C1 : Hid (∀ W, Below w.heap.size w W → Calls Try.prog 23 #[v] W fun e w' => e = .returned (.bool (okB s)) ∧ Below W.heap.size W w') := fun W h => refright_any v s W (hv.below h (Nat.le_refl _)) hf
  have C2 : Hid (∀ W, Below w.heap.size w W → Calls Try.prog 24 #[v] W fun e w' => e = .returned (.int .i64 (topL s.opn)) ∧ Below W.heap.size W w') := fun W h => reftop_any v s W (hv.below h (Nat.le_refl _)) hf
  have HT0 := Lib.hid (okB_top (s := s))
  have B0 : Hid (∀ o1 o2 : Obj, Below w.heap.size w ((w.alloc o1).alloc o2)) := fun o1 o2 => below_two w o1 o2
  have hsz : ∀ o1 o2 : Obj, ((w.alloc o1).alloc o2).heap.size = w.heap.size + 2 := fun o1 o2 => by simp
  have HS := Lib.hid hsz
  obtain ⟨vt, vo, rfl, ht, ho⟩ := hv
  have C3 : Hid (0 < topL s.opn → ∀ W, Below w.heap.size w W → Calls Try.prog 27 #[.agg #[vt, .int .i64 s.at_, vo, .int .i64 s.wait]] W fun e w' => ∃ r, e = .returned (.agg #[vt, .int .i64 s.at_, r, .int .i64 s.wait]) ∧ IntOwn w' W.heap.size r s.opn.dropLast ∧ Below W.heap.size W w') := fun h0 W h => refpop_any vt vo s W (ht.below h (Nat.le_refl _)) (ho.below h (Nat.le_refl _)) hf (top_ne h0)
  have HTA := Lib.hid ht
  have AT : Hid (∀ z, Apart w.heap.size z vt) := fun z => TkArg.apart ht
  obtain ⟨at1, ct1, rfl⟩ := ht.len
  obtain ⟨ao1, co1, rfl⟩ := ho.len
  clear ht ho hf hsz
  unfold CloseOut closeS
  cases ek : okB s with
  | false =>
    rw [ek] at C1
    rw [Bool.false_and]
    clear ek HT0
    go_enter Try.func15, Try.ntmps15
    go_wp2_with (first
      | (go_at_call 23; refine (C1.out _ (B0.out _ _)).mono ?_; rintro e w1 ⟨rfl, b1⟩; have hb1 := b1; rw [HS.out] at hb1; have L1 := Lib.hid ((two_lie w _ _).1.below hb1 (by omega)); have R1 := Lib.hid ((two_lie w _ _).2.below hb1 (by omega)); have B1 := Lib.hid ((B0.out _ _).trans (hb1.mono (by omega))); have S1 := Lib.hid hb1.size; clear hb1 b1; obtain ⟨c0, c1, c2, c3, f0, f1, f2, f3⟩ := L1.out.four; obtain ⟨k0, k1, k2, k3, j0, j1, j2, j3⟩ := R1.out.four))
    refine bodyPost_ret (by simp [results, Try.results15, go_sem, k0, k1, k2, k3]; try rfl) rfl ?_
    exact ⟨_, rfl, StV.zero _, set4_below B1.out (by omega) _ _ _ _⟩
  | true =>
    rw [ek] at C1
    rw [Bool.true_and]
    have ht0 := HT0.out ek
    clear ek HT0
    by_cases hw : s.wait = 1
    · have x1 : (s.wait == 1) = true := beq_iff_eq.2 hw
      have x2 : (s.wait != 1) = false := by rw [hw]; rfl
      rw [x2, Bool.false_and]
      clear hw
      go_enter Try.func15, Try.ntmps15
      go_wp2_with (first
        | (go_at_call 23; refine (C1.out _ (B0.out _ _)).mono ?_; rintro e w1 ⟨rfl, b1⟩; have hb1 := b1; rw [HS.out] at hb1; have L1 := Lib.hid ((two_lie w _ _).1.below hb1 (by omega)); have R1 := Lib.hid ((two_lie w _ _).2.below hb1 (by omega)); have B1 := Lib.hid ((B0.out _ _).trans (hb1.mono (by omega))); have S1 := Lib.hid hb1.size; clear hb1 b1; obtain ⟨c0, c1, c2, c3, f0, f1, f2, f3⟩ := L1.out.four; obtain ⟨k0, k1, k2, k3, j0, j1, j2, j3⟩ := R1.out.four))
      refine bodyPost_ret (by simp [results, Try.results15, go_sem, k0, k1, k2, k3]; try rfl) rfl ?_
      exact ⟨_, rfl, StV.zero _, set4_below B1.out (by omega) _ _ _ _⟩
    · have x1 : (s.wait == 1) = false := beq_eq_false_iff_ne.2 hw
      have x2 : (s.wait != 1) = true := by rw [bne_iff_ne]; exact hw
      rw [x2, Bool.true_and]
      by_cases h0 : topL s.opn = 0
      · have x3 : (topL s.opn == 0) = true := beq_iff_eq.2 h0
        have x4 : decide (0 < topL s.opn) = false := decide_eq_false (by omega)
        rw [x4]
        clear hw h0 ht0 x4
        go_enter Try.func15, Try.ntmps15
        go_wp2_with (first
          | (go_at_call 23; refine (C1.out _ (B0.out _ _)).mono ?_; rintro e w1 ⟨rfl, b1⟩; have hb1 := b1; rw [HS.out] at hb1; have L1 := Lib.hid ((two_lie w _ _).1.below hb1 (by omega)); have R1 := Lib.hid ((two_lie w _ _).2.below hb1 (by omega)); have B1 := Lib.hid ((B0.out _ _).trans (hb1.mono (by omega))); have S1 := Lib.hid hb1.size; clear hb1 b1; obtain ⟨c0, c1, c2, c3, f0, f1, f2, f3⟩ := L1.out.four; obtain ⟨k0, k1, k2, k3, j0, j1, j2, j3⟩ := R1.out.four)
          | (go_at_call 24; refine (C2.out _ B1.out).mono ?_; rintro e w2 ⟨rfl, b2⟩; have L2 := Lib.hid (L1.out.below b2 (by have := L1.out.lt; omega)); have R2 := Lib.hid (R1.out.below b2 (by have := R1.out.lt; omega)); have B2 := Lib.hid (afterL B1.out b2); clear b2; obtain ⟨m0, m1, m2, m3, g0, g1, g2, g3⟩ := L2.out.four; obtain ⟨n0, n1, n2, n3, i0, i1, i2, i3⟩ := R2.out.four))
        refine bodyPost_ret (by simp [results, Try.results15, go_sem, n0, n1, n2, n3]; try rfl) rfl ?_
        exact ⟨_, rfl, StV.zero _, set4_below B2.out (by omega) _ _ _ _⟩
      · have x3 : (topL s.opn == 0) = false := beq_eq_false_iff_ne.2 h0
        have x4 : decide (0 < topL s.opn) = true := decide_eq_true (by omega)
        have C4 := Lib.hid (C3.out (by omega))
        rw [x4]
        clear hw h0 ht0 x4 C3
        go_enter Try.func15, Try.ntmps15
        go_wp2_with (first
          | (go_at_call 23; refine (C1.out _ (B0.out _ _)).mono ?_; rintro e w1 ⟨rfl, b1⟩; have hb1 := b1; rw [HS.out] at hb1; have L1 := Lib.hid ((two_lie w _ _).1.below hb1 (by omega)); have R1 := Lib.hid ((two_lie w _ _).2.below hb1 (by omega)); have B1 := Lib.hid ((B0.out _ _).trans (hb1.mono (by omega))); have S1 := Lib.hid hb1.size; clear hb1 b1; obtain ⟨c0, c1, c2, c3, f0, f1, f2, f3⟩ := L1.out.four; obtain ⟨k0, k1, k2, k3, j0, j1, j2, j3⟩ := R1.out.four)
          | (go_at_call 24; refine (C2.out _ B1.out).mono ?_; rintro e w2 ⟨rfl, b2⟩; have L2 := Lib.hid (L1.out.below b2 (by have := L1.out.lt; omega)); have R2 := Lib.hid (R1.out.below b2 (by have := R1.out.lt; omega)); have B2 := Lib.hid (afterL B1.out b2); clear b2; obtain ⟨m0, m1, m2, m3, g0, g1, g2, g3⟩ := L2.out.four; obtain ⟨n0, n1, n2, n3, i0, i1, i2, i3⟩ := R2.out.four)
          | (go_at_call 27; refine (C4.out _ B2.out).mono ?_; rintro e w3 ⟨r3, rfl, o3, b3⟩; obtain ⟨p3, m3, q3, rfl⟩ := own_slice o3; have O3 := Lib.hid o3; have L3 := Lib.hid (R2.out.below b3 (by have := R2.out.lt; omega)); have B3 := Lib.hid (afterL B2.out b3); have S2 := Lib.hid (R2.out.lt); clear b3 o3; obtain ⟨p0, p1, p2, p3, q0, q1, q2, q3⟩ := L3.out.four))
        refine bodyPost_ret (by simp [results, Try.results15, go_sem, p0, p1, p2, p3]; try rfl) rfl ?_
        refine ⟨_, rfl, ⟨_, _, rfl, ?_, ?_⟩, set4_below B3.out (by omega) _ _ _ _⟩
        · exact TkArg.set4 (HTA.out.below B3.out (Nat.le_refl _)) (AT.out (w.heap.size + 2)) (by omega) (by omega) _ _ _ _
        · exact IntArg.set4 (a := w.heap.size) (z := w.heap.size + 2) (IntOwn.arg O3.out) (IntOwn.apart O3.out (by have := S2.out; omega)) (by omega) (by omega) _ _ _ _
end Go.Proofs.Ytmcdclhfjjplnaa.Lay
