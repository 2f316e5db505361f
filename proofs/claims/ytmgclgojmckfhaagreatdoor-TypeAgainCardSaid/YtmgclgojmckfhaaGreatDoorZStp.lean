/-
  The program's own layout: step. Conditions: at most 2^40 tokens and blocks.
-/
import Derived.Test.YtmgclgojmckfhaaGreatDoorZPst
import Derived.WalkMore
import Derived.WalkKit
namespace Go.Proofs.YtmgclgojmckfhaaGreatDoor.Lay
open Tks Mrk Go.RowKit
set_option linter.unusedSimpArgs false
set_option linter.unusedVariables false

/-- What lies where while step looks on. -/
structure Hs (w : World) (b R : Nat) (vt vo : Value) (wr : World) (k wk : Int) : Prop where
  st : Lies wr b (stO vt k vo wk)
  r1 : Lies wr R (tkO zeroT)
  kp : Kp w wr b none
theorem tkarg_kept {w w' : World} {v : Value} {l : List Tk} {b : Nat} (h : TkArg w v l) (ha : Apart b (b + 1) v) (k : Kp w w' b none) : TkArg w' v l := by
  refine TkArg.moved h k.size fun c off q e hn => ?_
  have hc : c < w.heap.size := by
    rcases h with ⟨e2, _⟩ | ⟨b3, o3, c3, e2, q3, _⟩
    · rw [e2] at hn
      exact absurd rfl hn
    · rw [e] at e2
      cases e2
      exact q3
  exact k.block c hc (by have := ha c off _ q e hn; omega) (by simp)
theorem Hs.at_ {w wr : World} {b R : Nat} {vt vo : Value} {k : Nat} {wk : Int} (h : Hs w b R vt vo wr (k : Int) wk) : intAt wr b 1 = k := by
  unfold intAt
  rw [h.st.four.2.1]
  simp
theorem Hs.drewN {w wr : World} {b R : Nat} {vt vo : Value} {k wk : Int} (h : Hs w b R vt vo wr k wk) (n : Nat) : Hs w b R vt vo (wr.drewN n) k wk := by
  induction n with
  | zero => exact h
  | succ n ih => exact ⟨ih.st, ih.r1, ⟨ih.kp.os, ih.kp.tape, ih.kp.output, ih.kp.size, ih.kp.block⟩⟩
theorem Hs.below {w wr X : World} {b R : Nat} {vt vo : Value} {k wk : Int} (h : Hs w b R vt vo wr k wk) (hb : Below wr.heap.size wr X) : Hs w b R vt vo X k wk :=
  ⟨h.st.below hb h.st.lt, h.r1.below hb h.r1.lt, h.kp.trans (Kp.of_below hb)⟩
theorem aft_kp {W w' : World} {b z : Nat} {g : Option Nat} {vt vo : Value} {o : List Int} {i' : Nat} {o' : List Int} {wt' : Int} (h : Aft W w' b z g vt vo o i' o' wt') : Kp W w' b g := by
  obtain ⟨_, _, _, _, _, _, k⟩ := h
  exact k
theorem nextR_nil_at (k : Nat) (o : List Int) (wk : Int) : (nextR [] k o wk).at_ = k := by
  unfold nextR
  split
  · rfl
  · split <;> rfl
theorem nextR_nil_wait (k : Nat) (o : List Int) (wk : Int) : (nextR [] k o wk).wait = wk := by
  unfold nextR
  split
  · rfl
  · split <;> rfl
set_option maxRecDepth 1000000 in
set_option maxHeartbeats 40000000 in
theorem step_any (vt vo : Value) (l : List Tk) (i : Nat) (o : List Int) (wt : Int) (b z : Nat) (g : Option Nat) (w : World) (hs : Lies w b (stO vt (i : Int) vo wt)) (ho : Opn w b z g vo o) (ht : TkArg w vt l) (hta : Apart b (b + 1) vt) (hok : Ok l i o wt) (hf1 : l.length ≤ 1099511627776) (hf2 : o.length ≤ 1099511627776) :
    Calls Tryz.prog 66 #[.pointer (some ⟨b, 0, none⟩)] w fun e w' => e = .returned (.tuple #[tkV9 (nextL l i o wt).tok, .int .i64 (nextL l i o wt).err]) ∧ Aft w w' b z g vt vo o (nextL l i o wt).at_ (nextL l i o wt).opn (nextL l i o wt).wait := by
  have HB := Lib.hid hs.lt
  have HBR2 := Lib.hid hs.lt
  obtain ⟨a, c, rfl⟩ := ho.arg.len
  obtain ⟨at1, ct1, rfl⟩ := ht.len
  have HO := Lib.hid ho
  have HS := Lib.hid hs
  have HT := Lib.hid ht
  have HA := Lib.hid hta
  have HK0 := Lib.hid hok
  have HF1 := Lib.hid hf1
  have HF2 := Lib.hid hf2
  clear hs ho ht hta hok hf1 hf2
  generalize hN0 : nextL l i o wt = n at *
  have HN0 := Lib.hid hN0
  clear hN0
  go_enter Tryz.func66, Tryz.ntmps66
  go_wp2
  go_step3
  go_wp2
  go_step3
  go_wp2
  go_loopw [] (fun wr => ∃ (k : Nat) (wk : Int), Ok l k o wk ∧ nextL l k o wk = n ∧ Hs w b w.heap.size (.slice at1 l.length ct1) (.slice a o.length c) wr (k : Int) wk) (fun wr => l.length - intAt wr b 1)
  case atStart => exact ⟨i, wt, HK0.out, HN0.out, ⟨HS.out.alloc _, Lies.new w _, Kp.of_below ((Below.refl _ _).alloc (Nat.le_refl _) _)⟩⟩
  case round =>
    obtain ⟨k, wk, hokk, hnx, hh⟩ := hrel
    have HK := Lib.hid hokk
    have HH := Lib.hid hh
    have hle := hokk.at_
    have HNX := Lib.hid hnx
    clear hokk hnx HK0 HN0
    obtain ⟨c0, c1, c2, c3, f0, f1, f2, f3⟩ := hh.st.four
    have d0 : decide ((k : Int) < (l.length : Int)) = decide (k < l.length) := by simp
    go_wp2_with fail
    go_quiet (fail)
    have hz := hh.drewN nq
    generalize wr.drewN nq = Z at hz ⊢
    have HZ := Lib.hid hz
    have HM := Lib.hid ((HH.out.at_).trans HZ.out.at_.symm)
    clear hh c0 c1 c2 c3 f0 f1 f2 f3 HH
    obtain ⟨c0, c1, c2, c3, f0, f1, f2, f3⟩ := hz.st.four
    clear hz
    by_cases hp : k < l.length
    · have d1 : decide (k < l.length) = true := decide_eq_true hp
      obtain ⟨t, ht⟩ : ∃ t, l[k]? = some t := ⟨_, List.getElem?_eq_getElem hp⟩
      obtain ⟨tb, td, tc, e3, h1, h2⟩ := (tkarg_kept HT.out HA.out HZ.out.kp).cells (by omega)
      simp only [Value.slice.injEq] at e3
      obtain ⟨rfl, -, rfl⟩ := e3
      have HI : TkIn Z tb td l := ⟨h1, h2⟩
      obtain ⟨a0, a1, a2, a3⟩ := HI.four k t ht
      have HN := Lib.hid ((next_at (o := o) (wt := wk) ht).symm.trans HNX.out)
      have HTK := Lib.hid ht
      have i0 : (0 : Int) ≤ (k : Int) := by omega
      have i1 : (k : Int) < (l.length : Int) := by omega
      have nZ : ¬ tb = Z.heap.size := by omega
      have hw5 : wrap64 ((k : Int) + 1) = (k : Int) + 1 := idx_at k l.length hp (Nat.le_trans HF1.out (by decide))
      have hw4 : IntKind.i64.wrap ((k : Int) + 1) = (k : Int) + 1 := by rw [IntWalk.i64_left]; exact hw5
      have HP := Lib.hid hp
      clear HI h1 h2 ht hp
      go_wp2_with fail
      go_region_held3 (fun w' => w'.cell? ⟨b, 0, none⟩ = some (.slice (some ⟨tb, td, none⟩) l.length ct1) ∧ w'.cell? ⟨b, 1, none⟩ = some (.int .i64 (k : Int)) ∧ w'.cell? ⟨tb, td + k * 4, none⟩ = some (.int .i64 t.kind) ∧ w'.cell? ⟨tb, td + k * 4 + 1, none⟩ = some (.string t.text) ∧ w'.cell? ⟨tb, td + k * 4 + 2, none⟩ = some (.int .i64 t.line) ∧ w'.cell? ⟨tb, td + k * 4 + 3, none⟩ = some (.int .i64 t.col)) (go_keep) (first | fail)
      obtain ⟨X, hX0⟩ : ∃ X, X = (Z.alloc (.cells #[.int .i64 t.kind, .string t.text, .int .i64 t.line, .int .i64 t.col] 41)).drew := ⟨_, rfl⟩
      have hX : Hs w b w.heap.size (.slice (some ⟨tb, td, none⟩) l.length ct1) (.slice a o.length c) X (k : Int) wk := by
        rw [hX0]
        exact HZ.out.below (bdrew ((Below.refl _ _).alloc (Nat.le_refl _) _))
      have tX : Lies X Z.heap.size (tkO t) := by
        rw [hX0]
        exact Lies.drew (Lies.new Z (tkO t))
      have sX : Z.heap.size < X.heap.size := tX.lt
      rw [← hX0]
      clear hX0
      have s0 := HZ.out.st.lt
      have s1 := HZ.out.r1.lt
      have s2 := HB.out
      have gT : ∀ q, Z.heap.size = q → some q ≠ g := fun q e1 e2 => by have := (HO.out.gz q e2.symm).2; omega
      have gR : ∀ q, w.heap.size = q → some q ≠ g := fun q e1 e2 => by have := (HO.out.gz q e2.symm).2; omega
      have HR := Lib.hid (Nat.le_refl w.heap.size)
      generalize hBt : Z.heap.size = T at *
      generalize hBr : w.heap.size = R at *
      have nTb : T ≠ b := by omega
      have nRb : R ≠ b := by omega
      have nbT : b ≠ T := by omega
      have nbR : b ≠ R := by omega
      have nTR : T ≠ R := by omega
      have nRT : R ≠ T := by omega
      have HBR := Lib.hid hBr
      have HX := Lib.hid hX
      have TX := Lib.hid tX
      have RX := Lib.hid hX.r1
      have OX := Lib.hid (HO.out.kept hX.kp)
      have SX : Hid (R < X.heap.size) := by unfold Hid; omega
      have TP := Lib.hid (fun W h => top_any (.slice a o.length c) o W h HF2.out)
      have SD := Lib.hid (fun (k2 kk : Int) (tx : ByteArray) (ln cl : Int) W => stands_any ⟨kk, tx, ln, cl⟩ k2 W)
      clear c0 c1 c2 c3 f0 f1 f2 f3 a0 a1 a2 a3 hX tX s0 s1 s2 sX hBt hBr
      obtain ⟨c0, c1, c2, c3, f0, f1, f2, f3⟩ := HX.out.st.four
      obtain ⟨x0, x1, x2, x3, y0, y1, y2, y3⟩ := tokLies TX.out
      obtain ⟨r0, r1, r2, r3, q0, q1, q2, q3⟩ := tokLies RX.out
      by_cases k16 : t.kind = 16
      · have z16 : (t.kind == 16) = true := beq_iff_eq.2 k16
        by_cases w0 : wk = 0
        · by_cases hq : topL o < t.col
          · subst w0
            have BG := Lib.hid (begin_high _ _ k o 0 t.col b z g X HX.out.st OX.out HF2.out (Nat.le_trans (Nat.le_of_lt HP.out) HF1.out) hq)
            have HN2 : Hid ((⟨atT 18 t, k + 1, o ++ [t.col], 0, 0⟩ : Nx) = n) := by
              have := HN.out
              unfold nextR at this
              rw [if_pos ⟨k16, rfl⟩, if_pos hq] at this
              exact this
            clear k16 hq
            go_wp2_with (first
              | (go_at_call 84; refine BG.out.mono ?_; rintro e w2 ⟨rfl, q2⟩; have A2 := Lib.hid q2; have L2 := Lib.hid ((aft_kp q2).lies TX.out nTb (gT _ rfl)); have R2 := Lib.hid ((aft_kp q2).lies RX.out nRb (gR _ rfl)); clear q2; obtain ⟨x0, x1, x2, x3, y0, y1, y2, y3⟩ := tokLies L2.out; obtain ⟨r0, r1, r2, r3, q0, q1, q2, q3⟩ := tokLies R2.out)
              | (go_at_call 85; refine (SD.out _ _ _ _ _ _).mono ?_; rintro e w3 ⟨rfl, b3⟩; have B3 := Lib.hid b3; have R3 := Lib.hid (R2.out.below b3 R2.out.lt); obtain ⟨r0, r1, r2, r3, q0, q1, q2, q3⟩ := tokLies R3.out; clear b3))
            try rw [Exit.noGoto_ret]
            refine bodyPost_ret (by simp [results, Tryz.results66, go_sem, r0, r1, r2, r3, nTb, nRb, nbT, nbR, nTR, nRT]; try rfl) rfl ?_
            rw [← HN2.out]
            exact ⟨rfl, Aft.fin HO.out HX.out.kp A2.out (grown_set4 (grown_below9 _ B3.out) _ _ _ _) (Nat.le_of_eq HBR.out) SX.out (by rw [HBR.out]; exact HBR2.out)⟩
          · subst w0
            have BG := Lib.hid (begin_low _ _ k o 0 t.col b z g X HX.out.st OX.out HF2.out hq)
            have HN2 : Hid ((⟨atT 18 t, k, o, 1, 0⟩ : Nx) = n) := by
              have := HN.out
              unfold nextR at this
              rw [if_pos ⟨k16, rfl⟩, if_neg hq] at this
              exact this
            clear k16 hq
            go_wp2_with (first
              | (go_at_call 84; refine BG.out.mono ?_; rintro e w2 ⟨rfl, q2⟩; have A2 := Lib.hid q2; have L2 := Lib.hid ((aft_kp q2).lies TX.out nTb (gT _ rfl)); have R2 := Lib.hid ((aft_kp q2).lies RX.out nRb (gR _ rfl)); clear q2; obtain ⟨x0, x1, x2, x3, y0, y1, y2, y3⟩ := tokLies L2.out; obtain ⟨r0, r1, r2, r3, q0, q1, q2, q3⟩ := tokLies R2.out)
              | (go_at_call 85; refine (SD.out _ _ _ _ _ _).mono ?_; rintro e w3 ⟨rfl, b3⟩; have B3 := Lib.hid b3; have R3 := Lib.hid (R2.out.below b3 R2.out.lt); obtain ⟨r0, r1, r2, r3, q0, q1, q2, q3⟩ := tokLies R3.out; clear b3))
            try rw [Exit.noGoto_ret]
            refine bodyPost_ret (by simp [results, Tryz.results66, go_sem, r0, r1, r2, r3, nTb, nRb, nbT, nbR, nTR, nRT]; try rfl) rfl ?_
            rw [← HN2.out]
            exact ⟨rfl, Aft.fin HO.out HX.out.kp A2.out (grown_set4 (grown_below9 _ B3.out) _ _ _ _) (Nat.le_of_eq HBR.out) SX.out (by rw [HBR.out]; exact HBR2.out)⟩
        by_cases w1 : wk = 1
        · subst w1
          have RY := Lib.hid (Lies.other RX.out nRb 3 (.int .i64 2))
          have TY := Lib.hid (Lies.other TX.out nTb 3 (.int .i64 2))
          have HN2 : Hid ((⟨atT 20 t, k, o, 2, 0⟩ : Nx) = n) := by
            have := HN.out
            unfold nextR at this
            rw [if_neg (fun q => w0 q.2), if_pos ⟨k16, rfl⟩] at this
            exact this
          clear k16
          go_wp2_with (first
            | (go_at_call 85; refine (SD.out _ _ _ _ _ _).mono ?_; rintro e w3 ⟨rfl, b3⟩; have B3 := Lib.hid b3; have R3 := Lib.hid (RY.out.below b3 RY.out.lt); obtain ⟨r0, r1, r2, r3, q0, q1, q2, q3⟩ := tokLies R3.out; clear b3))
          try rw [Exit.noGoto_ret]
          refine bodyPost_ret (by simp [results, Tryz.results66, go_sem, r0, r1, r2, r3, nTb, nRb, nbT, nbR, nTR, nRT]; try rfl) rfl ?_
          rw [← HN2.out]
          exact ⟨rfl, Aft.fin HO.out HX.out.kp (Aft.same OX.out (HX.out.st.set3 2) ((Kp.refl _ _ _).set 3 _)) (grown_set4 (grown_below9 _ B3.out) _ _ _ _) (Nat.le_of_eq HBR.out) SX.out (by rw [HBR.out]; exact HBR2.out)⟩
        have z0 : (wk == 0) = false := beq_eq_false_iff_ne.2 w0
        have z1 : (wk == 1) = false := beq_eq_false_iff_ne.2 w1
        have hkk := Lib.hid k16
        by_cases hq : 0 < topL o ∧ t.col < topL o
        · have LN := Lib.hid (line_shut _ _ k o wk t.col b z g X HX.out.st OX.out HF2.out hq)
          have HN2 : Hid ((⟨atT 20 t, k, o.dropLast, wk, 0⟩ : Nx) = n) := by
            have := HN.out
            unfold nextR at this
            rw [if_neg (fun q => w0 q.2), if_neg (fun q => w1 q.2), if_pos (.inl k16), if_pos hq] at this
            exact this
          clear hq hkk k16
          go_wp2_with (first
            | (go_at_call 86; refine LN.out.mono ?_; rintro e w2 ⟨rfl, q2⟩; have A2 := Lib.hid q2; have L2 := Lib.hid ((aft_kp q2).lies TX.out nTb (gT _ rfl)); have R2 := Lib.hid ((aft_kp q2).lies RX.out nRb (gR _ rfl)); clear q2; obtain ⟨x0, x1, x2, x3, y0, y1, y2, y3⟩ := tokLies L2.out; obtain ⟨r0, r1, r2, r3, q0, q1, q2, q3⟩ := tokLies R2.out)
            | (go_at_call 85; refine (SD.out _ _ _ _ _ _).mono ?_; rintro e w3 ⟨rfl, b3⟩; have B3 := Lib.hid b3; have R3 := Lib.hid (R2.out.below b3 R2.out.lt); obtain ⟨r0, r1, r2, r3, q0, q1, q2, q3⟩ := tokLies R3.out; clear b3))
          try rw [Exit.noGoto_ret]
          refine bodyPost_ret (by simp [results, Tryz.results66, go_sem, r0, r1, r2, r3, nTb, nRb, nbT, nbR, nTR, nRT]; try rfl) rfl ?_
          rw [← HN2.out]
          exact ⟨rfl, Aft.fin HO.out HX.out.kp A2.out (grown_set4 (grown_below9 _ B3.out) _ _ _ _) (Nat.le_of_eq HBR.out) SX.out (by rw [HBR.out]; exact HBR2.out)⟩
        by_cases hs1 : 0 < topL o ∧ t.col = topL o
        · have LN := Lib.hid (line_past _ _ k o wk t.col b z g X HX.out.st OX.out HF2.out (Nat.le_trans (Nat.le_of_lt HP.out) HF1.out) hq)
          have HN2 : Hid ((⟨atT 19 t, k + 1, o, 0, 0⟩ : Nx) = n) := by
            have := HN.out
            unfold nextR at this
            rw [if_neg (fun q => w0 q.2), if_neg (fun q => w1 q.2), if_pos (.inl k16), if_neg hq, if_pos hs1] at this
            exact this
          rw [if_pos hs1] at LN
          clear hq hs1 hkk k16
          go_wp2_with (first
            | (go_at_call 86; refine LN.out.mono ?_; rintro e w2 ⟨rfl, s2, q2⟩; have S2 := Lib.hid s2; have K2 := Lib.hid q2; have L2 := Lib.hid (q2.lies TX.out nTb (by simp)); have R2 := Lib.hid (q2.lies RX.out nRb (by simp)); clear s2 q2; obtain ⟨x0, x1, x2, x3, y0, y1, y2, y3⟩ := tokLies L2.out; obtain ⟨r0, r1, r2, r3, q0, q1, q2, q3⟩ := tokLies R2.out)
            | (go_at_call 85; refine (SD.out _ _ _ _ _ _).mono ?_; rintro e w3 ⟨rfl, b3⟩; have B3 := Lib.hid b3; have R3 := Lib.hid (R2.out.below b3 R2.out.lt); obtain ⟨r0, r1, r2, r3, q0, q1, q2, q3⟩ := tokLies R3.out; clear b3))
          try rw [Exit.noGoto_ret]
          refine bodyPost_ret (by simp [results, Tryz.results66, go_sem, r0, r1, r2, r3, nTb, nRb, nbT, nbR, nTR, nRT]; try rfl) rfl ?_
          rw [← HN2.out]
          exact ⟨rfl, Aft.fin HO.out HX.out.kp (Aft.same OX.out S2.out K2.out) (grown_set4 (grown_below9 _ B3.out) _ _ _ _) (Nat.le_of_eq HBR.out) SX.out (by rw [HBR.out]; exact HBR2.out)⟩
        · have LN := Lib.hid (line_past _ _ k o wk t.col b z g X HX.out.st OX.out HF2.out (Nat.le_trans (Nat.le_of_lt HP.out) HF1.out) hq)
          have HN2 : Hid (nextL l (k + 1) o 0 = n) := by
            have := HN.out
            unfold nextR at this
            rw [if_neg (fun q => w0 q.2), if_neg (fun q => w1 q.2), if_pos (.inl k16), if_neg hq, if_neg hs1] at this
            exact this
          have HK2 : Hid (Ok l (k + 1) o 0) := ⟨HP.out, HK.out.opn, by decide, by decide, fun q => absurd q (by decide)⟩
          rw [if_neg hs1] at LN
          clear hq hs1 hkk k16
          go_wp2_with (first
            | (go_at_call 86; refine LN.out.mono ?_; rintro e w2 ⟨rfl, s2, q2⟩; have S2 := Lib.hid s2; have K2 := Lib.hid q2; have L2 := Lib.hid (q2.lies TX.out nTb (by simp)); have R2 := Lib.hid (q2.lies RX.out nRb (by simp)); clear s2 q2; obtain ⟨x0, x1, x2, x3, y0, y1, y2, y3⟩ := tokLies L2.out; obtain ⟨r0, r1, r2, r3, q0, q1, q2, q3⟩ := tokLies R2.out))
          have REL : ∃ (k2 : Nat) (wk2 : Int), Ok l k2 o wk2 ∧ nextL l k2 o wk2 = n ∧ Hs w b w.heap.size (.slice (some ⟨tb, td, none⟩) l.length ct1) (.slice a o.length c) w2 (k2 : Int) wk2 := ⟨k + 1, 0, HK2.out, HN2.out, ⟨S2.out, by rw [HBR.out]; exact R2.out, HX.out.kp.trans K2.out⟩⟩
          refine ⟨by first | exact REL | ((repeat apply Exists.intro); exact ⟨REL, by rw [HBR.out]⟩), ?_⟩
          have e1 := (HM.out.trans HZ.out.at_)
          have e2 : intAt w2 b 1 = k + 1 := by
            unfold intAt
            rw [S2.out.four.2.1]
            simp
          have := HP.out
          rw [e1, e2]
          omega
      have z16 : (t.kind == 16) = false := beq_eq_false_iff_ne.2 k16
      by_cases k17 : t.kind = 17
      · have z17 : (t.kind == 17) = true := beq_iff_eq.2 k17
        have hkk := Lib.hid k17
        by_cases hq : 0 < topL o ∧ t.col < topL o
        · have LN := Lib.hid (line_shut _ _ k o wk t.col b z g X HX.out.st OX.out HF2.out hq)
          have HN2 : Hid ((⟨atT 20 t, k, o.dropLast, wk, 0⟩ : Nx) = n) := by
            have := HN.out
            unfold nextR at this
            rw [if_neg (fun q => k16 q.1), if_neg (fun q => k16 q.1), if_pos (.inr k17), if_pos hq] at this
            exact this
          clear hq hkk k16
          go_wp2_with (first
            | (go_at_call 86; refine LN.out.mono ?_; rintro e w2 ⟨rfl, q2⟩; have A2 := Lib.hid q2; have L2 := Lib.hid ((aft_kp q2).lies TX.out nTb (gT _ rfl)); have R2 := Lib.hid ((aft_kp q2).lies RX.out nRb (gR _ rfl)); clear q2; obtain ⟨x0, x1, x2, x3, y0, y1, y2, y3⟩ := tokLies L2.out; obtain ⟨r0, r1, r2, r3, q0, q1, q2, q3⟩ := tokLies R2.out)
            | (go_at_call 85; refine (SD.out _ _ _ _ _ _).mono ?_; rintro e w3 ⟨rfl, b3⟩; have B3 := Lib.hid b3; have R3 := Lib.hid (R2.out.below b3 R2.out.lt); obtain ⟨r0, r1, r2, r3, q0, q1, q2, q3⟩ := tokLies R3.out; clear b3))
          try rw [Exit.noGoto_ret]
          refine bodyPost_ret (by simp [results, Tryz.results66, go_sem, r0, r1, r2, r3, nTb, nRb, nbT, nbR, nTR, nRT]; try rfl) rfl ?_
          rw [← HN2.out]
          exact ⟨rfl, Aft.fin HO.out HX.out.kp A2.out (grown_set4 (grown_below9 _ B3.out) _ _ _ _) (Nat.le_of_eq HBR.out) SX.out (by rw [HBR.out]; exact HBR2.out)⟩
        by_cases hs1 : 0 < topL o ∧ t.col = topL o
        · have LN := Lib.hid (line_past _ _ k o wk t.col b z g X HX.out.st OX.out HF2.out (Nat.le_trans (Nat.le_of_lt HP.out) HF1.out) hq)
          have HN2 : Hid ((⟨atT 19 t, k + 1, o, 0, 0⟩ : Nx) = n) := by
            have := HN.out
            unfold nextR at this
            rw [if_neg (fun q => k16 q.1), if_neg (fun q => k16 q.1), if_pos (.inr k17), if_neg hq, if_pos hs1] at this
            exact this
          rw [if_pos hs1] at LN
          clear hq hs1 hkk k16
          go_wp2_with (first
            | (go_at_call 86; refine LN.out.mono ?_; rintro e w2 ⟨rfl, s2, q2⟩; have S2 := Lib.hid s2; have K2 := Lib.hid q2; have L2 := Lib.hid (q2.lies TX.out nTb (by simp)); have R2 := Lib.hid (q2.lies RX.out nRb (by simp)); clear s2 q2; obtain ⟨x0, x1, x2, x3, y0, y1, y2, y3⟩ := tokLies L2.out; obtain ⟨r0, r1, r2, r3, q0, q1, q2, q3⟩ := tokLies R2.out)
            | (go_at_call 85; refine (SD.out _ _ _ _ _ _).mono ?_; rintro e w3 ⟨rfl, b3⟩; have B3 := Lib.hid b3; have R3 := Lib.hid (R2.out.below b3 R2.out.lt); obtain ⟨r0, r1, r2, r3, q0, q1, q2, q3⟩ := tokLies R3.out; clear b3))
          try rw [Exit.noGoto_ret]
          refine bodyPost_ret (by simp [results, Tryz.results66, go_sem, r0, r1, r2, r3, nTb, nRb, nbT, nbR, nTR, nRT]; try rfl) rfl ?_
          rw [← HN2.out]
          exact ⟨rfl, Aft.fin HO.out HX.out.kp (Aft.same OX.out S2.out K2.out) (grown_set4 (grown_below9 _ B3.out) _ _ _ _) (Nat.le_of_eq HBR.out) SX.out (by rw [HBR.out]; exact HBR2.out)⟩
        · have LN := Lib.hid (line_past _ _ k o wk t.col b z g X HX.out.st OX.out HF2.out (Nat.le_trans (Nat.le_of_lt HP.out) HF1.out) hq)
          have HN2 : Hid (nextL l (k + 1) o 0 = n) := by
            have := HN.out
            unfold nextR at this
            rw [if_neg (fun q => k16 q.1), if_neg (fun q => k16 q.1), if_pos (.inr k17), if_neg hq, if_neg hs1] at this
            exact this
          have HK2 : Hid (Ok l (k + 1) o 0) := ⟨HP.out, HK.out.opn, by decide, by decide, fun q => absurd q (by decide)⟩
          rw [if_neg hs1] at LN
          clear hq hs1 hkk k16
          go_wp2_with (first
            | (go_at_call 86; refine LN.out.mono ?_; rintro e w2 ⟨rfl, s2, q2⟩; have S2 := Lib.hid s2; have K2 := Lib.hid q2; have L2 := Lib.hid (q2.lies TX.out nTb (by simp)); have R2 := Lib.hid (q2.lies RX.out nRb (by simp)); clear s2 q2; obtain ⟨x0, x1, x2, x3, y0, y1, y2, y3⟩ := tokLies L2.out; obtain ⟨r0, r1, r2, r3, q0, q1, q2, q3⟩ := tokLies R2.out))
          have REL : ∃ (k2 : Nat) (wk2 : Int), Ok l k2 o wk2 ∧ nextL l k2 o wk2 = n ∧ Hs w b w.heap.size (.slice (some ⟨tb, td, none⟩) l.length ct1) (.slice a o.length c) w2 (k2 : Int) wk2 := ⟨k + 1, 0, HK2.out, HN2.out, ⟨S2.out, by rw [HBR.out]; exact R2.out, HX.out.kp.trans K2.out⟩⟩
          refine ⟨by first | exact REL | ((repeat apply Exists.intro); exact ⟨REL, by rw [HBR.out]⟩), ?_⟩
          have e1 := (HM.out.trans HZ.out.at_)
          have e2 : intAt w2 b 1 = k + 1 := by
            unfold intAt
            rw [S2.out.four.2.1]
            simp
          have := HP.out
          rw [e1, e2]
          omega
      have z17 : (t.kind == 17) = false := beq_eq_false_iff_ne.2 k17
      by_cases hsh : isShut t = true
      · have z3 : (t.kind == 15) = true := by
          unfold isShut at hsh
          exact (Bool.and_eq_true_iff.1 hsh).1
        have v1 : tx t = [125] := by
          unfold isShut at hsh
          exact beq_iff_eq.1 (Bool.and_eq_true_iff.1 hsh).2
        have v2 : (t.text.toList == [125]) = true := by rw [beq_iff_eq, ← v1, Lib.toList_data]; rfl
        have v3 : (t.text.data.toList == [125]) = true := beq_iff_eq.2 v1
        by_cases ho0 : o = []
        · have HN2 : Hid ((⟨zeroT, k, o, wk, 90⟩ : Nx) = n) := by
            have := HN.out
            unfold nextR at this
            rw [if_neg (fun q => k16 q.1), if_neg (fun q => k16 q.1), if_neg (fun q => q.elim k16 k17), if_pos hsh, if_pos (.inl ho0)] at this
            exact this
          have hl0 : ((o.length : Int) == 0) = true := by rw [ho0]; rfl
          clear ho0 hsh k16 k17 v1
          go_wp2_with (first
            | (go_at_call 87; refine (TP.out _ OX.out.arg).mono ?_; rintro e w2 ⟨rfl, hw⟩; rw [hw]; clear hw))
          try rw [Exit.noGoto_ret]
          refine bodyPost_ret (by simp [results, Tryz.results66, go_sem, r0, r1, r2, r3, nTb, nRb, nbT, nbR, nTR, nRT]; try rfl) rfl ?_
          rw [← HN2.out]
          exact ⟨rfl, Aft.fin HO.out HX.out.kp (Aft.same OX.out HX.out.st (Kp.refl _ _ _)) (grown_set4 (grown_below9 _ (Below.refl _ _)) _ _ _ _) (Nat.le_of_eq HBR.out) SX.out (by rw [HBR.out]; exact HBR2.out)⟩
        have hl0 : ((o.length : Int) == 0) = false := by
          have : 0 < o.length := List.length_pos_iff.2 ho0
          rw [beq_eq_false_iff_ne]
          omega
        by_cases hto : 0 < topL o
        · have HN2 : Hid ((⟨zeroT, k, o, wk, 90⟩ : Nx) = n) := by
            have := HN.out
            unfold nextR at this
            rw [if_neg (fun q => k16 q.1), if_neg (fun q => k16 q.1), if_neg (fun q => q.elim k16 k17), if_pos hsh, if_pos (.inr hto)] at this
            exact this
          have d3 : decide (0 < topL o) = true := decide_eq_true hto
          clear ho0 hto hsh k16 k17 v1
          go_wp2_with (first
            | (go_at_call 87; refine (TP.out _ OX.out.arg).mono ?_; rintro e w2 ⟨rfl, hw⟩; rw [hw]; clear hw))
          try rw [Exit.noGoto_ret]
          refine bodyPost_ret (by simp [results, Tryz.results66, go_sem, r0, r1, r2, r3, nTb, nRb, nbT, nbR, nTR, nRT]; try rfl) rfl ?_
          rw [← HN2.out]
          exact ⟨rfl, Aft.fin HO.out HX.out.kp (Aft.same OX.out HX.out.st (Kp.refl _ _ _)) (grown_set4 (grown_below9 _ (Below.refl _ _)) _ _ _ _) (Nat.le_of_eq HBR.out) SX.out (by rw [HBR.out]; exact HBR2.out)⟩
        · have HN2 : Hid ((⟨t, k + 1, o.dropLast, wk, 0⟩ : Nx) = n) := by
            have := HN.out
            unfold nextR at this
            rw [if_neg (fun q => k16 q.1), if_neg (fun q => k16 q.1), if_neg (fun q => q.elim k16 k17), if_pos hsh, if_neg (fun q => q.elim ho0 hto)] at this
            exact this
          have d3 : decide (0 < topL o) = false := decide_eq_false hto
          have H0 := Lib.hid ho0
          have K15 := Lib.hid z3
          have OU := Lib.hid (outer_any a c o X OX.out.arg HF2.out ho0)
          clear ho0 hto hsh k16 k17 v1
          go_wp2_with (first
            | (go_at_call 87; refine (TP.out _ OX.out.arg).mono ?_; rintro e w2 ⟨rfl, hw⟩; rw [hw]; clear hw)
            | (go_at_call 88; refine OU.out.mono ?_; rintro e w2 ⟨rfl, hw⟩; rw [hw]; clear hw))
          try rw [Exit.noGoto_ret]
          refine bodyPost_ret (by simp [results, Tryz.results66, go_sem, r0, r1, r2, r3, nTb, nRb, nbT, nbR, nTR, nRT]; try rfl) rfl ?_
          rw [← HN2.out]
          exact ⟨by first | rfl | rw [tkV9, beq_iff_eq.1 K15.out], Aft.fin HO.out HX.out.kp (Aft.pop OX.out H0.out (((HX.out.st.set2 _).set1 ((k + 1 : Nat) : Int))) (((Kp.refl _ _ _).set 2 _).set 1 _)) (grown_set4 (grown_below9 _ (Below.refl _ _)) _ _ _ _) (Nat.le_of_eq HBR.out) SX.out (by rw [HBR.out]; exact HBR2.out)⟩
      by_cases hop : isOpen t = true
      · have z3 : (t.kind == 15) = true := by
          unfold isOpen at hop
          exact (Bool.and_eq_true_iff.1 hop).1
        have v1 : tx t = [123] := by
          unfold isOpen at hop
          exact beq_iff_eq.1 (Bool.and_eq_true_iff.1 hop).2
        have v2 : (t.text.toList == [123]) = true := by rw [beq_iff_eq, ← v1, Lib.toList_data]; rfl
        have v3 : (t.text.data.toList == [123]) = true := beq_iff_eq.2 v1
        have v4 : (t.text.toList == [125]) = false := by rw [beq_eq_false_iff_ne, Lib.toList_data]; intro e; have e : tx t = [125] := e; rw [v1] at e; cases e
        have v5 : (t.text.data.toList == [125]) = false := by rw [beq_eq_false_iff_ne]; intro e; have e : tx t = [125] := e; rw [v1] at e; cases e
        have HN2 : Hid ((⟨t, k + 1, o ++ [0], wk, 0⟩ : Nx) = n) := by
          have := HN.out
          unfold nextR at this
          rw [if_neg (fun q => k16 q.1), if_neg (fun q => k16 q.1), if_neg (fun q => q.elim k16 k17), if_neg hsh, if_pos hop] at this
          exact this
        have K15 := Lib.hid z3
        clear hsh hop k16 k17 v1
        go_wp2_with (first
          | (at_builtin; refine append_open X rfl _ _ rfl b z g (.slice a o.length c) o rfl OX.out 0 _ _ rfl HF2.out ?_; intro v1 w1 h1 k1 e1; obtain ⟨p5, n5, s5, rfl⟩ := own_slice h1; have H1 := Lib.hid h1; have K1 := Lib.hid k1; have E1 := Lib.hid e1; have L1 := Lib.hid ((Kp.of_row (b := b + X.heap.size) K1.out).lies HX.out.st (by have := HX.out.st.lt; omega) (fun e => by have := OX.out.gz b e.symm; have := OX.out.lo; omega)); have LT := Lib.hid ((Kp.of_row (b := b) K1.out).lies TX.out nTb (gT _ rfl)); have LR := Lib.hid ((Kp.of_row (b := b) K1.out).lies RX.out nRb (gR _ rfl)); clear h1 k1 e1; obtain ⟨m0, m1, m2, m3, j0, j1, j2, j3⟩ := L1.out.four; obtain ⟨x0, x1, x2, x3, y0, y1, y2, y3⟩ := tokLies LT.out; obtain ⟨r0, r1, r2, r3, q0, q1, q2, q3⟩ := tokLies LR.out))
        have own : IntOwn ((w1.setCell ⟨b, 2, none⟩ (.slice p5 n5 s5)).setCell ⟨b, 1, none⟩ (.int .i64 ((k + 1 : Nat) : Int))) z (.slice p5 n5 s5) (o ++ [0]) := by
          have h := H1.out
          have lo := OX.out.lo
          unfold IntOwn at h ⊢
          exact ownsRow_setCell_below (ownsRow_setCell_below h (by dsimp only; omega) _) (by dsimp only; omega) _
        have AF := Aft.push OX.out (((L1.out.set2 _).set1 ((k + 1 : Nat) : Int))) own E1.out (((Kp.of_row K1.out).set 2 _).set 1 _)
        try rw [Exit.noGoto_ret]
        refine bodyPost_ret (by simp [results, Tryz.results66, go_sem, r0, r1, r2, r3, nTb, nRb, nbT, nbR, nTR, nRT]; try rfl) rfl ?_
        rw [← HN2.out]
        exact ⟨by first | rfl | rw [tkV9, beq_iff_eq.1 K15.out], Aft.fin HO.out HX.out.kp AF (grown_set4 (grown_below9 _ (Below.refl _ _)) _ _ _ _) (Nat.le_of_eq HBR.out) SX.out (by rw [HBR.out]; exact HBR2.out)⟩
      have HN2 : Hid ((⟨t, k + 1, o, wk, 0⟩ : Nx) = n) := by
        have := HN.out
        unfold nextR at this
        rw [if_neg (fun q => k16 q.1), if_neg (fun q => k16 q.1), if_neg (fun q => q.elim k16 k17), if_neg hsh, if_neg hop] at this
        exact this
      by_cases z3 : t.kind = 15
      · have z4 : (t.kind == 15) = true := beq_iff_eq.2 z3
        have v1 : ¬ tx t = [125] := fun e => hsh (by unfold isShut; rw [z4, e]; rfl)
        have v2 : (t.text.toList == [125]) = false := by rw [beq_eq_false_iff_ne, Lib.toList_data]; exact v1
        have v3 : (t.text.data.toList == [125]) = false := beq_eq_false_iff_ne.2 v1
        have v4 : ¬ tx t = [123] := fun e => hop (by unfold isOpen; rw [z4, e]; rfl)
        have v5 : (t.text.toList == [123]) = false := by rw [beq_eq_false_iff_ne, Lib.toList_data]; exact v4
        have v6 : (t.text.data.toList == [123]) = false := beq_eq_false_iff_ne.2 v4
        have K15 := Lib.hid z4
        clear z3 hsh hop k16 k17 v1 v4
        go_wp2_with fail
        try rw [Exit.noGoto_ret]
        refine bodyPost_ret (by simp [results, Tryz.results66, go_sem, r0, r1, r2, r3, nTb, nRb, nbT, nbR, nTR, nRT]; try rfl) rfl ?_
        rw [← HN2.out]
        exact ⟨by first | rfl | rw [tkV9, beq_iff_eq.1 K15.out], Aft.fin HO.out HX.out.kp (Aft.same OX.out (HX.out.st.set1 ((k + 1 : Nat) : Int)) ((Kp.refl _ _ _).set 1 _)) (grown_set4 (grown_below9 _ (Below.refl _ _)) _ _ _ _) (Nat.le_of_eq HBR.out) SX.out (by rw [HBR.out]; exact HBR2.out)⟩
      · have z4 : (t.kind == 15) = false := beq_eq_false_iff_ne.2 z3
        clear z3 hsh hop k16 k17
        go_wp2_with fail
        try rw [Exit.noGoto_ret]
        refine bodyPost_ret (by simp [results, Tryz.results66, go_sem, r0, r1, r2, r3, nTb, nRb, nbT, nbR, nTR, nRT]; try rfl) rfl ?_
        rw [← HN2.out]
        exact ⟨rfl, Aft.fin HO.out HX.out.kp (Aft.same OX.out (HX.out.st.set1 ((k + 1 : Nat) : Int)) ((Kp.refl _ _ _).set 1 _)) (grown_set4 (grown_below9 _ (Below.refl _ _)) _ _ _ _) (Nat.le_of_eq HBR.out) SX.out (by rw [HBR.out]; exact HBR2.out)⟩
    · have hke : k = l.length := by omega
      have d2 : decide ((k : Int) < (l.length : Int)) = false := decide_eq_false (by omega)
      clear d0
      have d1 : decide (k < l.length) = false := decide_eq_false hp
      have i1 : ¬ ((k : Int) < (l.length : Int)) := by omega
      have EN := Lib.hid (end_any _ _ k o wk b z g Z HZ.out.st (HO.out.kept HZ.out.kp) HF2.out HK.out.opn)
      have HN2 : Hid (nextR [] k o wk = n) := by
        unfold Hid
        rw [← HNX.out, nextL, hke, List.drop_length]
      have nRb : w.heap.size ≠ b := by have := HB.out; omega
      have nbR : b ≠ w.heap.size := by omega
      have gR : some w.heap.size ≠ g := fun e2 => by have := (HO.out.gz _ e2.symm).2; omega
      have RX := Lib.hid HZ.out.r1
      unfold tkV9 at EN
      clear hke
      go_wp2_with (first
        | (go_at_call 89; refine EN.out.mono ?_; rintro e w2 ⟨rfl, q2⟩; have A2 := Lib.hid q2; have R2 := Lib.hid ((aft_kp q2).lies RX.out nRb gR); clear q2; obtain ⟨r0, r1, r2, r3, q0, q1, q2, q3⟩ := tokLies R2.out))
      try rw [Exit.noGoto_ret]
      refine bodyPost_ret (by simp [results, Tryz.results66, go_sem, r0, r1, r2, r3, nRb, nbR]; try rfl) rfl ?_
      rw [← HN2.out, nextR_nil_at, nextR_nil_wait]
      exact ⟨rfl, Aft.fin HO.out HZ.out.kp A2.out (grown_set4 (grown_below9 _ (Below.refl _ _)) _ _ _ _) (Nat.le_refl _) RX.out.lt HB.out⟩
end Go.Proofs.YtmgclgojmckfhaaGreatDoor.Lay
