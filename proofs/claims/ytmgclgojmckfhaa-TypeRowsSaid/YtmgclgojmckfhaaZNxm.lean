/-
  The document's own Next at any states. Conditions: at most 2^40 tokens and blocks.
-/
import Derived.Test.YtmgclgojmckfhaaZNxc
import Derived.Test.YtmgclgojmckfhaaZNxd
import Derived.Test.YtmgclgojmckfhaaZNxea
import Derived.Test.YtmgclgojmckfhaaZNxeb
import Derived.Test.YtmgclgojmckfhaaZSm
import Derived.Deep.CutRange
namespace Go.Proofs.Ytmgclgojmckfhaa.Lay
open Tks Mrk Go.RowKit
set_option linter.unusedSimpArgs false
set_option linter.unusedVariables false

set_option maxRecDepth 1000000 in
set_option maxHeartbeats 40000000 in
theorem refnext_ok (vt vo : Value) (toks : List Tk) (i : Nat) (o : List Int) (wt : Int) (w : World) (ht : TkArg w vt toks) (ho : IntArg w vo o) (hf1 : toks.length ≤ 1099511627776) (hf2 : o.length ≤ 1099511627776) (hok : Ok toks i o wt) :
    Calls Try.prog 59 #[.agg #[vt, .int .i64 (i : Int), vo, .int .i64 wt]] w (fun e w' => ∃ v, e = .returned (.tuple #[tkV9 (nextL toks i o wt).tok, v, .int .i64 (nextL toks i o wt).err]) ∧ StF w vt vo w' v ⟨toks, (nextL toks i o wt).at_, (nextL toks i o wt).opn, (nextL toks i o wt).wait⟩ ∧ Below w.heap.size w w') := by
  have hokB : okB ⟨toks, (i : Int), o, wt⟩ = true := (okB_iff _).2 ⟨i, rfl, hok⟩
  have C1 : Hid (∀ W, Below w.heap.size w W → Calls Try.prog 68 #[.agg #[vt, .int .i64 (i : Int), vo, .int .i64 wt]] W fun e w' => e = .returned (.bool true) ∧ Below W.heap.size W w') := fun W h => by
    have := refright_any _ ⟨toks, (i : Int), o, wt⟩ W ⟨vt, vo, rfl, ht.below h (Nat.le_refl _), ho.below h (Nat.le_refl _)⟩ ⟨hf1, hf2⟩
    rw [hokB] at this
    exact this
  have C2 : Hid (∀ (k : Nat) (wk : Int) W, Below w.heap.size w W → Calls Try.prog 69 #[.agg #[vt, .int .i64 (k : Int), vo, .int .i64 wk]] W fun e w' => e = .returned (.int .i64 (topL o)) ∧ Below W.heap.size W w') := fun k wk W h => reftop_any _ ⟨toks, (k : Int), o, wk⟩ W ⟨vt, vo, rfl, ht.below h (Nat.le_refl _), ho.below h (Nat.le_refl _)⟩ ⟨hf1, hf2⟩
  have C3 : Hid (o ≠ [] → ∀ (k : Nat) (wk : Int) W, Below w.heap.size w W → Calls Try.prog 72 #[.agg #[vt, .int .i64 (k : Int), vo, .int .i64 wk]] W fun e w' => ∃ r, e = .returned (.agg #[vt, .int .i64 (k : Int), r, .int .i64 wk]) ∧ IntOwn w' W.heap.size r o.dropLast ∧ Below W.heap.size W w') := fun hne k wk W h => refpop_any vt vo ⟨toks, (k : Int), o, wk⟩ W (ht.below h (Nat.le_refl _)) (ho.below h (Nat.le_refl _)) ⟨hf1, hf2⟩ hne
  have C4 : Hid (∀ (z : Int) (k : Nat) (wk : Int) W, Below w.heap.size w W → Calls Try.prog 70 #[.agg #[vt, .int .i64 (k : Int), vo, .int .i64 wk], .int .i64 z] W fun e w' => ∃ r, e = .returned (.agg #[vt, .int .i64 (k : Int), r, .int .i64 wk]) ∧ IntOwn w' W.heap.size r (o ++ [z]) ∧ Below W.heap.size W w') := fun z k wk W h => refpush_any vt vo ⟨toks, (k : Int), o, wk⟩ z W (ht.below h (Nat.le_refl _)) (ho.below h (Nat.le_refl _)) ⟨hf1, hf2⟩
  have HTA := Lib.hid ht
  have HOA := Lib.hid ho
  have HF1 := Lib.hid hf1
  have HF2 := Lib.hid hf2
  have HOK := Lib.hid hok
  have B0 : Hid (∀ o1 o2 o3 : Obj, Below w.heap.size w (((w.alloc o1).alloc o2).alloc o3)) := fun o1 o2 o3 => below_three w o1 o2 o3
  obtain ⟨at1, ct1, rfl⟩ := ht.len
  obtain ⟨ao1, co1, rfl⟩ := ho.len
  clear ht ho hf1 hf2 hok hokB
  go_enter Try.func59, Try.ntmps59
  go_wp2_with (first
    | (go_at_call 68; refine (C1.out _ (B0.out _ _ _)).mono ?_; rintro e w1 ⟨rfl, b1⟩; have H1 : Hid (Hold w (w.heap.size + 1) (w.heap.size + 1 + 1) w1 (.slice at1 toks.length ct1) (.slice ao1 o.length co1) (i : Int) wt) := ⟨(three_lie w _ _ _).1.below b1 (by simp only [World.size_alloc]; omega), (three_lie w _ _ _).2.1.below b1 (by simp only [World.size_alloc]; omega), (three_lie w _ _ _).2.2.below b1 (by simp only [World.size_alloc]; omega), afterL (B0.out _ _ _) b1⟩; clear b1))
  generalize hB2 : w.heap.size + 1 + 1 = B2 at H1 ⊢
  generalize hB1 : w.heap.size + 1 = B1 at H1 ⊢
  have n1 : ¬ B1 = w.heap.size := by omega
  have n2 : ¬ B2 = w.heap.size := by omega
  have n3 : ¬ B1 = B2 := by omega
  have m1 : ¬ w.heap.size = B1 := by omega
  have m2 : ¬ w.heap.size = B2 := by omega
  have m3 : ¬ B2 = B1 := by omega
  have HB : Hid (w.heap.size + 1 = B1 ∧ w.heap.size + 1 + 1 = B2) := ⟨hB1, by omega⟩
  clear hB1 hB2
  go_loopw [] (fun wr => ∃ (k : Nat) (wk : Int), Ok toks k o wk ∧ nextL toks k o wk = nextL toks i o wt ∧ Hold w B1 B2 wr (.slice at1 toks.length ct1) (.slice ao1 o.length co1) (k : Int) wk) (fun wr => toks.length - intAt wr w.heap.size 1)
  case atStart => exact ⟨i, wt, HOK.out, rfl, H1.out⟩
  case round =>
    obtain ⟨k, wk, hokk, hnx, hh⟩ := hrel
    have HK := Lib.hid hokk
    have HH := Lib.hid hh
    have hle := hokk.at_
    have HNX := Lib.hid hnx
    clear hokk hnx hh H1 HOK
    by_cases hp : k < toks.length
    · skip
      obtain ⟨t, ht⟩ : ∃ t, toks[k]? = some t := ⟨_, List.getElem?_eq_getElem hp⟩
      have HT := Lib.hid ht
      by_cases k16 : t.kind = 16
      · by_cases w01 : wk = 0 ∨ wk = 1
        · exact round_d _ _ _ _ toks i o wt w wr B1 B2 k _ t HTA HOA HF1 HF2 C2 C3 C4 n1 n2 n3 m1 m2 m3 HB HK HH HNX hp HT.out (Lib.hid k16) w01 _ _ _ _ _ _ _ _ _ _ _ _ _ _ _ _ _ _ _ _ _ _ _ _ _ _ _ _ _ _ _ _ _ _ _ _ _ _ _ _ _ _ _ _ _ _ _ _ _ _ _ _ _ _ _ _ _ _ _ _ _ _ _ _ _ _ _ _ _ _ _ _ _ _ _ _ _ _ _ _ _ _ _ _ _ _ _ _ _ _ _ _ _ _ _ _ _ _ _ _ _ _ _ _ _ _ _ _ _ _ _ _ _ _ _ _ _ _ _ _ _ _ _ _ _ _ _ _ _ _ _ _ _ _
        have w2 : wk = 2 := by
          have := HK.out.wlo
          have := HK.out.whi
          omega
        by_cases hl : 0 < topL o ∧ (t.col < topL o ∨ (¬ t.col < topL o ∧ t.col = topL o))
        · exact round_ea _ _ _ _ toks i o wt w wr B1 B2 k _ t HTA HOA HF1 HF2 C2 C3 C4 n1 n2 n3 m1 m2 m3 HB HK HH HNX hp HT.out (Lib.hid k16) w2 hl.1 hl.2 _ _ _ _ _ _ _ _ _ _ _ _ _ _ _ _ _ _ _ _ _ _ _ _ _ _ _ _ _ _ _ _ _ _ _ _ _ _ _ _ _ _ _ _ _ _ _ _ _ _ _ _ _ _ _ _ _ _ _ _ _ _ _ _ _ _ _ _ _ _ _ _ _ _ _ _ _ _ _ _ _ _ _ _ _ _ _ _ _ _ _ _ _ _ _ _ _ _ _ _ _ _ _ _ _ _ _ _ _ _ _ _ _ _ _ _ _ _ _ _ _ _ _ _ _ _ _ _ _ _ _ _ _ _
        subst w2
        have k16h := Lib.hid k16
        clear w01 k16
        obtain ⟨tb, td, tc, e3, h1, h2⟩ := (HTA.out.below HH.out.bel (Nat.le_refl _)).cells (by omega)
        simp only [Value.slice.injEq] at e3
        obtain ⟨rfl, -, rfl⟩ := e3
        have HI : TkIn wr tb td toks := ⟨h1, h2⟩
        obtain ⟨a0, a1, a2, a3⟩ := HI.four k t ht
        have HN := Lib.hid (next_at (o := o) (wt := 2) ht)
        have i0 : (0 : Int) ≤ (k : Int) := by omega
        have i1 : (k : Int) < (toks.length : Int) := by omega
        have hw4 : IntKind.i64.wrap ((k : Int) + 1) = (k : Int) + 1 := by rw [IntWalk.i64_left]; exact idx_at k toks.length hp (Nat.le_trans HF1.out (by decide))
        have hw5 : wrap64 ((k : Int) + 1) = (k : Int) + 1 := idx_at k toks.length hp (Nat.le_trans HF1.out (by decide))
        have HP := Lib.hid hp
        obtain ⟨c0, c1, c2, c3, f0, f1, f2, f3⟩ := HH.out.st.four
        clear HI h1 h2 ht hp hle
        go_upto_region 5 with fail
        refine gen_world (fun X => Hold w B1 B2 X (.slice (some ⟨tb, td, none⟩) toks.length ct1) (.slice ao1 o.length co1) (k : Int) 2 ∧ Lies X wr.heap.size (tkO t) ∧ wr.heap.size < X.heap.size) ⟨HH.out.below ((Below.refl _ _).alloc (Nat.le_refl _) _), Lies.new wr (tkO t), by rw [World.size_alloc]; omega⟩ ?_
        rintro X ⟨hX, tX, sX⟩
        have s0 := HH.out.st.lt
        have s1 := HH.out.r1.lt
        have s2 := HH.out.r2.lt
        generalize wr.heap.size = Bt at *
        have b0 : ¬ Bt = w.heap.size := by omega
        have b1 : ¬ Bt = B1 := by omega
        have b2 : ¬ Bt = B2 := by omega
        have b3 : ¬ w.heap.size = Bt := by omega
        have b4 : ¬ B1 = Bt := by omega
        have b5 : ¬ B2 = Bt := by omega
        have HX := Lib.hid hX
        have TX := Lib.hid tX
        clear c0 c1 c2 c3 f0 f1 f2 f3 a0 a1 a2 a3 hX tX s0 s1 s2 sX
        obtain ⟨c0, c1, c2, c3, f0, f1, f2, f3⟩ := HX.out.st.four
        obtain ⟨x0, x1, x2, x3, y0, y1, y2, y3⟩ := tokLies TX.out
        have k16 := k16h.out
        have z1 : (t.kind == 16) = true := beq_iff_eq.2 k16
        by_cases htp : 0 < topL o
        · have hlt : ¬ t.col < topL o := fun q => hl ⟨htp, .inl q⟩
          have heq : ¬ t.col = topL o := fun q => hl ⟨htp, .inr ⟨hlt, q⟩⟩
          clear hl
          have HR : Hid (nextR (t :: toks.drop (k + 1)) k o 2 = nextR (toks.drop (k + 1)) (k + 1) o 0) := by
            unfold Hid
            rw [nextR, if_neg (fun q => absurd q.2 (by decide)), if_neg (fun q => absurd q.2 (by decide)), if_pos (.inl k16), if_neg (fun q => hlt q.2), if_neg (fun q => heq q.2)]
          have HPS := Lib.hid (pass_ok HK.out HP.out)
          have HN2 : Hid (nextL toks (k + 1) o 0 = nextL toks i o wt) := by
            unfold Hid
            rw [← HNX.out, HN.out, HR.out]
            rfl
          have t1 : decide (0 < topL o) = true := decide_eq_true htp
          have t2 : decide (t.col < topL o) = false := decide_eq_false hlt
          have t3 : (t.col == topL o) = false := beq_eq_false_iff_ne.2 heq
          clear htp hlt heq k16
          go_wp2_with (first
            | (go_at_call 69; refine (C2.out _ _ _ HX.out.bel).mono ?_; rintro e w2 ⟨rfl, u9⟩; clear c0 c1 c2 c3 f0 f1 f2 f3 x0 x1 x2 x3 y0 y1 y2 y3; have H2 := Lib.hid (HX.out.below u9); have T2 := Lib.hid (TX.out.below u9 TX.out.lt); clear u9; obtain ⟨c0, c1, c2, c3, f0, f1, f2, f3⟩ := H2.out.st.four; obtain ⟨x0, x1, x2, x3, y0, y1, y2, y3⟩ := tokLies T2.out))
          refine ⟨by first | exact ⟨k + 1, 0, HPS.out, HN2.out, ⟨Lies.set (Lies.set H2.out.st 1 _) 3 _, Lies.other (Lies.other H2.out.r1 n1 1 _) n1 3 _, Lies.other (Lies.other H2.out.r2 n2 1 _) n2 3 _, Below.setCell (Below.setCell H2.out.bel (p := ⟨w.heap.size, 1, none⟩) (Nat.le_refl _) _) (p := ⟨w.heap.size, 3, none⟩) (Nat.le_refl _) _⟩⟩ | ((repeat apply Exists.intro); exact ⟨⟨k + 1, 0, HPS.out, HN2.out, ⟨Lies.set (Lies.set H2.out.st 1 _) 3 _, Lies.other (Lies.other H2.out.r1 n1 1 _) n1 3 _, Lies.other (Lies.other H2.out.r2 n2 1 _) n2 3 _, Below.setCell (Below.setCell H2.out.bel (p := ⟨w.heap.size, 1, none⟩) (Nat.le_refl _) _) (p := ⟨w.heap.size, 3, none⟩) (Nat.le_refl _) _⟩⟩, rfl⟩), ?_⟩
          have e1 : intAt wr w.heap.size 1 = k := HH.out.at_
          have e2 : intAt ((w2.setCell ⟨w.heap.size, 1, none⟩ (.int .i64 ((k : Int) + 1))).setCell ⟨w.heap.size, 3, none⟩ (.int .i64 0)) w.heap.size 1 = k + 1 := by
            unfold intAt
            rw [(Lies.four (vt := (.slice (some ⟨tb, td, none⟩) toks.length ct1)) (vo := (.slice ao1 o.length co1)) (i := (k : Int) + 1) (w := 0) (Lies.set (Lies.set H2.out.st 1 _) 3 _)).2.1]
            simp
          have := HP.out
          rw [e1]
          first | (rw [e2]; omega) | (simp only [e2]; omega)
        · clear hl
          have HR : Hid (nextR (t :: toks.drop (k + 1)) k o 2 = nextR (toks.drop (k + 1)) (k + 1) o 0) := by
            unfold Hid
            rw [nextR, if_neg (fun q => absurd q.2 (by decide)), if_neg (fun q => absurd q.2 (by decide)), if_pos (.inl k16), if_neg (fun q => htp q.1), if_neg (fun q => htp q.1)]
          have HPS := Lib.hid (pass_ok HK.out HP.out)
          have HN2 : Hid (nextL toks (k + 1) o 0 = nextL toks i o wt) := by
            unfold Hid
            rw [← HNX.out, HN.out, HR.out]
            rfl
          have t1 : decide (0 < topL o) = false := decide_eq_false htp
          clear htp k16
          go_wp2_with (first
            | (go_at_call 69; refine (C2.out _ _ _ HX.out.bel).mono ?_; rintro e w2 ⟨rfl, u9⟩; clear c0 c1 c2 c3 f0 f1 f2 f3 x0 x1 x2 x3 y0 y1 y2 y3; have H2 := Lib.hid (HX.out.below u9); have T2 := Lib.hid (TX.out.below u9 TX.out.lt); clear u9; obtain ⟨c0, c1, c2, c3, f0, f1, f2, f3⟩ := H2.out.st.four; obtain ⟨x0, x1, x2, x3, y0, y1, y2, y3⟩ := tokLies T2.out))
          refine ⟨by first | exact ⟨k + 1, 0, HPS.out, HN2.out, ⟨Lies.set (Lies.set H2.out.st 1 _) 3 _, Lies.other (Lies.other H2.out.r1 n1 1 _) n1 3 _, Lies.other (Lies.other H2.out.r2 n2 1 _) n2 3 _, Below.setCell (Below.setCell H2.out.bel (p := ⟨w.heap.size, 1, none⟩) (Nat.le_refl _) _) (p := ⟨w.heap.size, 3, none⟩) (Nat.le_refl _) _⟩⟩ | ((repeat apply Exists.intro); exact ⟨⟨k + 1, 0, HPS.out, HN2.out, ⟨Lies.set (Lies.set H2.out.st 1 _) 3 _, Lies.other (Lies.other H2.out.r1 n1 1 _) n1 3 _, Lies.other (Lies.other H2.out.r2 n2 1 _) n2 3 _, Below.setCell (Below.setCell H2.out.bel (p := ⟨w.heap.size, 1, none⟩) (Nat.le_refl _) _) (p := ⟨w.heap.size, 3, none⟩) (Nat.le_refl _) _⟩⟩, rfl⟩), ?_⟩
          have e1 : intAt wr w.heap.size 1 = k := HH.out.at_
          have e2 : intAt ((w2.setCell ⟨w.heap.size, 1, none⟩ (.int .i64 ((k : Int) + 1))).setCell ⟨w.heap.size, 3, none⟩ (.int .i64 0)) w.heap.size 1 = k + 1 := by
            unfold intAt
            rw [(Lies.four (vt := (.slice (some ⟨tb, td, none⟩) toks.length ct1)) (vo := (.slice ao1 o.length co1)) (i := (k : Int) + 1) (w := 0) (Lies.set (Lies.set H2.out.st 1 _) 3 _)).2.1]
            simp
          have := HP.out
          rw [e1]
          first | (rw [e2]; omega) | (simp only [e2]; omega)
      · by_cases k17 : t.kind = 17
        · have w2 : wk = 0 := wait_zero HK.out HT.out k16
          by_cases hl : 0 < topL o ∧ (t.col < topL o ∨ (¬ t.col < topL o ∧ t.col = topL o))
          · exact round_eb _ _ _ _ toks i o wt w wr B1 B2 k _ t HTA HOA HF1 HF2 C2 C3 C4 n1 n2 n3 m1 m2 m3 HB HK HH HNX hp HT.out k16 (Lib.hid k17) w2 hl.1 hl.2 _ _ _ _ _ _ _ _ _ _ _ _ _ _ _ _ _ _ _ _ _ _ _ _ _ _ _ _ _ _ _ _ _ _ _ _ _ _ _ _ _ _ _ _ _ _ _ _ _ _ _ _ _ _ _ _ _ _ _ _ _ _ _ _ _ _ _ _ _ _ _ _ _ _ _ _ _ _ _ _ _ _ _ _ _ _ _ _ _ _ _ _ _ _ _ _ _ _ _ _ _ _ _ _ _ _ _ _ _ _ _ _ _ _ _ _ _ _ _ _ _ _ _ _ _ _ _ _ _ _ _ _ _ _
          subst w2
          have k17h := Lib.hid k17
          clear k17
          obtain ⟨tb, td, tc, e3, h1, h2⟩ := (HTA.out.below HH.out.bel (Nat.le_refl _)).cells (by omega)
          simp only [Value.slice.injEq] at e3
          obtain ⟨rfl, -, rfl⟩ := e3
          have HI : TkIn wr tb td toks := ⟨h1, h2⟩
          obtain ⟨a0, a1, a2, a3⟩ := HI.four k t ht
          have HN := Lib.hid (next_at (o := o) (wt := 0) ht)
          have i0 : (0 : Int) ≤ (k : Int) := by omega
          have i1 : (k : Int) < (toks.length : Int) := by omega
          have hw4 : IntKind.i64.wrap ((k : Int) + 1) = (k : Int) + 1 := by rw [IntWalk.i64_left]; exact idx_at k toks.length hp (Nat.le_trans HF1.out (by decide))
          have hw5 : wrap64 ((k : Int) + 1) = (k : Int) + 1 := idx_at k toks.length hp (Nat.le_trans HF1.out (by decide))
          have HP := Lib.hid hp
          obtain ⟨c0, c1, c2, c3, f0, f1, f2, f3⟩ := HH.out.st.four
          clear HI h1 h2 ht hp hle
          go_upto_region 5 with fail
          refine gen_world (fun X => Hold w B1 B2 X (.slice (some ⟨tb, td, none⟩) toks.length ct1) (.slice ao1 o.length co1) (k : Int) 0 ∧ Lies X wr.heap.size (tkO t) ∧ wr.heap.size < X.heap.size) ⟨HH.out.below ((Below.refl _ _).alloc (Nat.le_refl _) _), Lies.new wr (tkO t), by rw [World.size_alloc]; omega⟩ ?_
          rintro X ⟨hX, tX, sX⟩
          have s0 := HH.out.st.lt
          have s1 := HH.out.r1.lt
          have s2 := HH.out.r2.lt
          generalize wr.heap.size = Bt at *
          have b0 : ¬ Bt = w.heap.size := by omega
          have b1 : ¬ Bt = B1 := by omega
          have b2 : ¬ Bt = B2 := by omega
          have b3 : ¬ w.heap.size = Bt := by omega
          have b4 : ¬ B1 = Bt := by omega
          have b5 : ¬ B2 = Bt := by omega
          have HX := Lib.hid hX
          have TX := Lib.hid tX
          clear c0 c1 c2 c3 f0 f1 f2 f3 a0 a1 a2 a3 hX tX s0 s1 s2 sX
          obtain ⟨c0, c1, c2, c3, f0, f1, f2, f3⟩ := HX.out.st.four
          obtain ⟨x0, x1, x2, x3, y0, y1, y2, y3⟩ := tokLies TX.out
          have k17 := k17h.out
          have z1 : (t.kind == 16) = false := beq_eq_false_iff_ne.2 k16
          have z2 : (t.kind == 17) = true := beq_iff_eq.2 k17
          by_cases htp : 0 < topL o
          · have hlt : ¬ t.col < topL o := fun q => hl ⟨htp, .inl q⟩
            have heq : ¬ t.col = topL o := fun q => hl ⟨htp, .inr ⟨hlt, q⟩⟩
            clear hl
            have HR : Hid (nextR (t :: toks.drop (k + 1)) k o 0 = nextR (toks.drop (k + 1)) (k + 1) o 0) := by
              unfold Hid
              rw [nextR, if_neg (fun q => k16 q.1), if_neg (fun q => k16 q.1), if_pos (.inr k17), if_neg (fun q => hlt q.2), if_neg (fun q => heq q.2)]
            have HPS := Lib.hid (pass_ok HK.out HP.out)
            have HN2 : Hid (nextL toks (k + 1) o 0 = nextL toks i o wt) := by
              unfold Hid
              rw [← HNX.out, HN.out, HR.out]
              rfl
            have t1 : decide (0 < topL o) = true := decide_eq_true htp
            have t2 : decide (t.col < topL o) = false := decide_eq_false hlt
            have t3 : (t.col == topL o) = false := beq_eq_false_iff_ne.2 heq
            clear htp hlt heq k16 k17
            go_wp2_with (first
              | (go_at_call 69; refine (C2.out _ _ _ HX.out.bel).mono ?_; rintro e w2 ⟨rfl, u9⟩; clear c0 c1 c2 c3 f0 f1 f2 f3 x0 x1 x2 x3 y0 y1 y2 y3; have H2 := Lib.hid (HX.out.below u9); have T2 := Lib.hid (TX.out.below u9 TX.out.lt); clear u9; obtain ⟨c0, c1, c2, c3, f0, f1, f2, f3⟩ := H2.out.st.four; obtain ⟨x0, x1, x2, x3, y0, y1, y2, y3⟩ := tokLies T2.out))
            refine ⟨by first | exact ⟨k + 1, 0, HPS.out, HN2.out, ⟨Lies.set (Lies.set H2.out.st 1 _) 3 _, Lies.other (Lies.other H2.out.r1 n1 1 _) n1 3 _, Lies.other (Lies.other H2.out.r2 n2 1 _) n2 3 _, Below.setCell (Below.setCell H2.out.bel (p := ⟨w.heap.size, 1, none⟩) (Nat.le_refl _) _) (p := ⟨w.heap.size, 3, none⟩) (Nat.le_refl _) _⟩⟩ | ((repeat apply Exists.intro); exact ⟨⟨k + 1, 0, HPS.out, HN2.out, ⟨Lies.set (Lies.set H2.out.st 1 _) 3 _, Lies.other (Lies.other H2.out.r1 n1 1 _) n1 3 _, Lies.other (Lies.other H2.out.r2 n2 1 _) n2 3 _, Below.setCell (Below.setCell H2.out.bel (p := ⟨w.heap.size, 1, none⟩) (Nat.le_refl _) _) (p := ⟨w.heap.size, 3, none⟩) (Nat.le_refl _) _⟩⟩, rfl⟩), ?_⟩
            have e1 : intAt wr w.heap.size 1 = k := HH.out.at_
            have e2 : intAt ((w2.setCell ⟨w.heap.size, 1, none⟩ (.int .i64 ((k : Int) + 1))).setCell ⟨w.heap.size, 3, none⟩ (.int .i64 0)) w.heap.size 1 = k + 1 := by
              unfold intAt
              rw [(Lies.four (vt := (.slice (some ⟨tb, td, none⟩) toks.length ct1)) (vo := (.slice ao1 o.length co1)) (i := (k : Int) + 1) (w := 0) (Lies.set (Lies.set H2.out.st 1 _) 3 _)).2.1]
              simp
            have := HP.out
            rw [e1]
            first | (rw [e2]; omega) | (simp only [e2]; omega)
          · clear hl
            have HR : Hid (nextR (t :: toks.drop (k + 1)) k o 0 = nextR (toks.drop (k + 1)) (k + 1) o 0) := by
              unfold Hid
              rw [nextR, if_neg (fun q => k16 q.1), if_neg (fun q => k16 q.1), if_pos (.inr k17), if_neg (fun q => htp q.1), if_neg (fun q => htp q.1)]
            have HPS := Lib.hid (pass_ok HK.out HP.out)
            have HN2 : Hid (nextL toks (k + 1) o 0 = nextL toks i o wt) := by
              unfold Hid
              rw [← HNX.out, HN.out, HR.out]
              rfl
            have t1 : decide (0 < topL o) = false := decide_eq_false htp
            clear htp k16 k17
            go_wp2_with (first
              | (go_at_call 69; refine (C2.out _ _ _ HX.out.bel).mono ?_; rintro e w2 ⟨rfl, u9⟩; clear c0 c1 c2 c3 f0 f1 f2 f3 x0 x1 x2 x3 y0 y1 y2 y3; have H2 := Lib.hid (HX.out.below u9); have T2 := Lib.hid (TX.out.below u9 TX.out.lt); clear u9; obtain ⟨c0, c1, c2, c3, f0, f1, f2, f3⟩ := H2.out.st.four; obtain ⟨x0, x1, x2, x3, y0, y1, y2, y3⟩ := tokLies T2.out))
            refine ⟨by first | exact ⟨k + 1, 0, HPS.out, HN2.out, ⟨Lies.set (Lies.set H2.out.st 1 _) 3 _, Lies.other (Lies.other H2.out.r1 n1 1 _) n1 3 _, Lies.other (Lies.other H2.out.r2 n2 1 _) n2 3 _, Below.setCell (Below.setCell H2.out.bel (p := ⟨w.heap.size, 1, none⟩) (Nat.le_refl _) _) (p := ⟨w.heap.size, 3, none⟩) (Nat.le_refl _) _⟩⟩ | ((repeat apply Exists.intro); exact ⟨⟨k + 1, 0, HPS.out, HN2.out, ⟨Lies.set (Lies.set H2.out.st 1 _) 3 _, Lies.other (Lies.other H2.out.r1 n1 1 _) n1 3 _, Lies.other (Lies.other H2.out.r2 n2 1 _) n2 3 _, Below.setCell (Below.setCell H2.out.bel (p := ⟨w.heap.size, 1, none⟩) (Nat.le_refl _) _) (p := ⟨w.heap.size, 3, none⟩) (Nat.le_refl _) _⟩⟩, rfl⟩), ?_⟩
            have e1 : intAt wr w.heap.size 1 = k := HH.out.at_
            have e2 : intAt ((w2.setCell ⟨w.heap.size, 1, none⟩ (.int .i64 ((k : Int) + 1))).setCell ⟨w.heap.size, 3, none⟩ (.int .i64 0)) w.heap.size 1 = k + 1 := by
              unfold intAt
              rw [(Lies.four (vt := (.slice (some ⟨tb, td, none⟩) toks.length ct1)) (vo := (.slice ao1 o.length co1)) (i := (k : Int) + 1) (w := 0) (Lies.set (Lies.set H2.out.st 1 _) 3 _)).2.1]
              simp
            have := HP.out
            rw [e1]
            first | (rw [e2]; omega) | (simp only [e2]; omega)
        · exact round_c _ _ _ _ toks i o wt w wr B1 B2 k _ t HTA HOA HF1 HF2 C2 C3 C4 n1 n2 n3 m1 m2 m3 HB HK HH HNX hp HT.out k16 k17 _ _ _ _ _ _ _ _ _ _ _ _ _ _ _ _ _ _ _ _ _ _ _ _ _ _ _ _ _ _ _ _ _ _ _ _ _ _ _ _ _ _ _ _ _ _ _ _ _ _ _ _ _ _ _ _ _ _ _ _ _ _ _ _ _ _ _ _ _ _ _ _ _ _ _ _ _ _ _ _ _ _ _ _ _ _ _ _ _ _ _ _ _ _ _ _ _ _ _ _ _ _ _ _ _ _ _ _ _ _ _ _ _ _ _ _ _ _ _ _ _ _ _ _ _ _ _ _ _ _ _ _ _ _
    · have hke : k = toks.length := by omega
      subst hke
      have hw0 := wait_end HK.out (Nat.le_refl _)
      subst hw0
      have HN : Hid (nextL toks toks.length o 0 = nextR [] toks.length o 0) := by unfold Hid nextL; rw [List.drop_length]
      obtain ⟨c0, c1, c2, c3, f0, f1, f2, f3⟩ := HH.out.st.four
      have lt1 : decide ((toks.length : Int) < (toks.length : Int)) = false := decide_eq_false (by omega)
      by_cases ho0 : o = []
      · skip
        have HR : Hid (nextR [] toks.length o 0 = ⟨endT 21, toks.length, o, 0, 0⟩) := by unfold Hid nextR; rw [if_pos ho0]
        obtain ⟨d0, d1, d2, d3, g0, g1, g2, g3⟩ := tokLies HH.out.r1; obtain ⟨e0, e1, e2, e3, h0, h1, h2, h3⟩ := HH.out.r2.four; dsimp only [zeroT] at d0 d1 d2 d3
        have hl0 : ((o.length : Int) == 0) = true := by rw [ho0]; rfl
        clear ho0
        go_wp2_with fail
        go_region_held3 (fun w' => w'.cell? ⟨w.heap.size, 0, none⟩ = some (.slice at1 toks.length ct1) ∧ w'.cell? ⟨w.heap.size, 1, none⟩ = some (.int .i64 (toks.length : Int)) ∧ w'.cell? ⟨w.heap.size, 2, none⟩ = some (.slice ao1 o.length co1) ∧ w'.cell? ⟨w.heap.size, 3, none⟩ = some (.int .i64 0)) (go_keep) (fail)
        go_wp2_with fail
        refine bodyPost_ret (by simp [results, Try.results59, go_sem, d0, d1, d2, d3, e0, e1, e2, e3, n3, m3]; try rfl) rfl ?_
        rw [← HNX.out, HN.out, HR.out]
        obtain ⟨q1, q2, q3, q4⟩ := fin_same (B1 := B1) (B2 := B2) HH.out.bel (by have := HB.out.1; omega) (by have := HB.out.2; omega) HTA.out HOA.out (.int .i64 21) (.string ⟨#[]⟩) (.int .i64 0) (.int .i64 0) (.slice at1 toks.length ct1) (.int .i64 (toks.length : Int)) (.slice ao1 o.length co1) (.int .i64 0)
        exact ⟨_, rfl, ⟨_, rfl, q1, q2, q4⟩, q3⟩
      · have hl0 : ((o.length : Int) == 0) = false := by
          have : 0 < o.length := List.length_pos_iff.2 ho0
          rw [beq_eq_false_iff_ne]
          omega
        by_cases htp : 0 < topL o
        · skip
          have HR : Hid (nextR [] toks.length o 0 = ⟨endT 20, toks.length, o.dropLast, 0, 0⟩) := by unfold Hid nextR; rw [if_neg ho0, if_pos htp]
          have tb : decide (0 < topL o) = true := decide_eq_true htp
          have C5 := Lib.hid (C3.out ho0)
          clear ho0 htp
          go_wp2_with (first
            | (go_at_call 69; refine (C2.out _ _ _ HH.out.bel).mono ?_; rintro e w2 ⟨rfl, b2⟩; have H2 := Lib.hid (HH.out.below b2); clear b2; obtain ⟨m0, m1', m2', m3', g0, g1, g2, g3⟩ := H2.out.st.four)
            | (go_at_call 72; refine (C5.out _ _ _ H2.out.bel).mono ?_; rintro e w3 ⟨r3, rfl, o3, b3⟩; obtain ⟨p3, q3, s3, rfl⟩ := own_slice o3; have O3 := Lib.hid o3; have H3 := Lib.hid (H2.out.below b3); have S3 := Lib.hid H2.out.r2.lt; have S4 := Lib.hid H2.out.r1.lt; clear b3 o3; obtain ⟨d0, d1, d2, d3, g0, g1, g2, g3⟩ := tokLies H3.out.r1; obtain ⟨e0, e1, e2, e3, h0, h1, h2, h3⟩ := H3.out.r2.four; dsimp only [zeroT] at d0 d1 d2 d3))
          refine bodyPost_ret (by simp [results, Try.results59, go_sem, d0, d1, d2, d3, e0, e1, e2, e3, n3, m3]; try rfl) rfl ?_
          rw [← HNX.out, HN.out, HR.out]
          obtain ⟨q1, q2, q3, q4⟩ := fin_own (v0 := (.slice ao1 o.length co1)) (B1 := B1) (B2 := B2) H3.out.bel (by have := HB.out.1; omega) (by have := HB.out.2; omega) S4.out S3.out HTA.out O3.out (.int .i64 20) (.string ⟨#[]⟩) (.int .i64 0) (.int .i64 0) (.slice at1 toks.length ct1) (.int .i64 (toks.length : Int)) (.slice p3 q3 s3) (.int .i64 0)
          exact ⟨_, rfl, ⟨_, rfl, q1, q2, q4⟩, q3⟩
        · skip
          have HR : Hid (nextR [] toks.length o 0 = ⟨zeroT, toks.length, o, 0, 90⟩) := by unfold Hid nextR; rw [if_neg ho0, if_neg htp]
          have tb : decide (0 < topL o) = false := decide_eq_false htp
          clear ho0 htp
          go_wp2_with (first
            | (go_at_call 69; refine (C2.out _ _ _ HH.out.bel).mono ?_; rintro e w2 ⟨rfl, b2⟩; have H2 := Lib.hid (HH.out.below b2); clear b2; obtain ⟨m0, m1', m2', m3', g0, g1, g2, g3⟩ := H2.out.st.four; obtain ⟨d0, d1, d2, d3, g0, g1, g2, g3⟩ := tokLies H2.out.r1; obtain ⟨e0, e1, e2, e3, h0, h1, h2, h3⟩ := H2.out.r2.four; dsimp only [zeroT] at d0 d1 d2 d3))
          go_region_held3 (fun w' => w'.cell? ⟨w.heap.size, 0, none⟩ = some (.slice at1 toks.length ct1) ∧ w'.cell? ⟨w.heap.size, 1, none⟩ = some (.int .i64 (toks.length : Int)) ∧ w'.cell? ⟨w.heap.size, 2, none⟩ = some (.slice ao1 o.length co1) ∧ w'.cell? ⟨w.heap.size, 3, none⟩ = some (.int .i64 0)) (go_keep) (fail)
          go_wp2_with fail
          refine bodyPost_ret (by simp [results, Try.results59, go_sem, d0, d1, d2, d3, e0, e1, e2, e3, n3, m3]; try rfl) rfl ?_
          rw [← HNX.out, HN.out, HR.out]
          obtain ⟨q1, q2, q3, q4⟩ := fin_same (B1 := B1) (B2 := B2) H2.out.bel (by have := HB.out.1; omega) (by have := HB.out.2; omega) HTA.out HOA.out (.int .i64 0) (.string ⟨#[]⟩) (.int .i64 0) (.int .i64 0) (.slice at1 toks.length ct1) (.int .i64 (toks.length : Int)) (.slice ao1 o.length co1) (.int .i64 0)
          exact ⟨_, rfl, ⟨_, rfl, q1, q2, q4⟩, q3⟩
end Go.Proofs.Ytmgclgojmckfhaa.Lay
/-
  The document's own Next and All at any states and rows. Conditions: at most 2^40 tokens and blocks; All at most 3000.
-/
namespace Go.Proofs.Ytmgclgojmckfhaa.Lay
open Tks Mrk Go.RowKit
set_option linter.unusedSimpArgs false
set_option linter.unusedVariables false

theorem refnext_is : RefNext := by
  intro vt vo s W ht ho hf i hi hok
  obtain ⟨toks, a, o, wt⟩ := s
  dsimp only at hi ht ho hok ⊢
  subst hi
  refine (refnext_ok vt vo toks i o wt W ht ho hf.1 hf.2 hok).mono ?_
  rintro e w' ⟨v, rfl, ⟨vo', rfl, h1, h2, h3⟩, hb⟩
  refine ⟨vo', rfl, h2, ?_, hb⟩
  rcases h3 with h3 | h3
  · rw [h3]
    exact From.same _ _
  · exact From.above h3
theorem refnext_any (v : Value) (s : Sx) (w : World) (hv : StV w v s) (hf : Fit9 s) : Calls Try.prog 59 #[v] w (NextOut w s) := by
  cases hk : okB s with
  | false => exact refnext_not v s w hv hf hk
  | true =>
    obtain ⟨vt, vo, rfl, ht, ho⟩ := hv
    obtain ⟨i, hi, hok⟩ := (okB_iff s).1 hk
    obtain ⟨toks, a, o, wt⟩ := s
    dsimp only at hi ht ho hok ⊢
    subst hi
    refine (refnext_ok vt vo toks i o wt w ht ho hf.1 hf.2 hok).mono ?_
    rintro e w' ⟨v, rfl, h, hb⟩
    unfold NextOut nextS
    rw [if_pos hk]
    exact ⟨v, rfl, h.st, hb⟩
end Go.Proofs.Ytmgclgojmckfhaa.Lay
