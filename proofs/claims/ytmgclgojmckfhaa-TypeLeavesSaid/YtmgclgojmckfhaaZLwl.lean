/-
  The law TypeLeaves. No condition.
-/
import Derived.Test.YtmgclgojmckfhaaZPss
import Derived.Test.YtmgclgojmckfhaaZLwf
import Derived.Test.YtmgclgojmckfhaaZLvs
import Derived.Test.YtmgclgojmckfhaaZEqf
namespace Go.Proofs.Ytmgclgojmckfhaa.Typ
open Tks Tre Go.RowKit
open Lay (Sx StV Fit9 nextS NextOut tkV9 IntArg Kp)
set_option linter.unusedSimpArgs false
set_option linter.unusedVariables false

def lowB (s : Sx) : Bool := decide (s.toks.length ≤ 100) && decide (s.opn.length ≤ 100)
theorem low_fits {s : Sx} (h1 : s.toks.length ≤ 100) (h2 : s.opn.length ≤ 100) : Fits big s := ⟨by unfold big; omega, by unfold big; omega⟩
theorem low_left {s : Sx} (h1 : s.toks.length ≤ 100) (h2 : s.opn.length ≤ 100) (h3 : 0 ≤ s.wait) : lf s < 7000 := by
  unfold lf Lay.left
  omega
theorem clean_bad {x : Rd} (h : (cleanR x).e ≠ 0) : (cleanR x).h = zeroN ∧ (cleanR x).k = .nil := by
  unfold cleanR at h ⊢
  split
  · rename_i q
    rw [if_pos q] at h
    exact absurd q h
  · exact ⟨rfl, rfl⟩
theorem full_bad {s : Sx} {deep : Int} (h : (fullS s deep).e ≠ 0) : (fullS s deep).h = zeroN ∧ (fullS s deep).k = .nil := by
  unfold fullS at h ⊢
  split
  · exact ⟨rfl, rfl⟩
  · rename_i q
    rw [if_neg q] at h
    unfold fullR at h ⊢
    dsimp only at h ⊢
    split
    · rename_i q2
      rw [if_pos q2] at h
      exact clean_bad h
    · rename_i q2
      rw [if_neg q2] at h
      exact clean_bad h
/-- If nothing was passed the wait may be anything; if something was, it may be. -/
theorem steps_low {s t : Sx} {l : List Tk} (h : Steps s l t) (h1 : s.toks.length ≤ 100) (h2 : s.opn.length ≤ 100) : l ≠ [] → lf s < 7000 := by
  intro hl
  cases l with
  | nil => exact absurd rfl hl
  | cons x l =>
    obtain ⟨e, -⟩ := steps_inv h
    obtain ⟨n, hn, ok⟩ := (Lay.okB_iff s).1 (er_ok e)
    exact low_left h1 h2 ok.wlo
theorem toks_same (va vb : Value) (l : List Tk) (w : World) (ha : TkArg w va l) (hb : TkArg w vb l) (hm : l.length ≤ 3518437208880) :
    Calls Try.prog 22 #[va, vb] w fun e w' => e = .returned (.bool true) ∧ Below w.heap.size w w' := sameall_any va vb l w ha hb hm
set_option maxRecDepth 1000000 in
set_option maxHeartbeats 4000000 in
theorem leaves_walk (v : Value) (s : Sx) (deep : Int) (w : World) (hv : StV w v s) :
    Calls Try.prog 7 #[v, .int .i64 deep] w fun e w' => e = .returned (.bool true) ∧ Below w.heap.size w w' := by
  obtain ⟨tv, ov, rfl, ht, ho⟩ := hv
  have hs : StOn w (fun _ => True) tv ov s := StOn.of ht ho (fun _ _ => trivial)
  obtain ⟨ta, tc, oa, oc, rfl, rfl⟩ := hs.len
  have HS := Lib.hid hs
  have CA := Lib.hid (fun W => tawake_any W)
  clear ht ho hs
  by_cases h1 : s.toks.length ≤ 100
  · have y1 : decide ((s.toks.length : Int) > 100) = false := decide_eq_false (by omega)
    have z1 : decide ((100 : Int) < (s.toks.length : Int)) = false := decide_eq_false (by omega)
    by_cases h2 : s.opn.length ≤ 100
    · have y2 : decide ((s.opn.length : Int) > 100) = false := decide_eq_false (by omega)
      have z2 : decide ((100 : Int) < (s.opn.length : Int)) = false := decide_eq_false (by omega)
      have hf := low_fits h1 h2
      have C1 : Hid (∀ W, Below w.heap.size w W → Calls Try.prog 18 #[stV (.slice ta s.toks.length tc) s.at_ (.slice oa s.opn.length oc) s.wait, .int .i64 deep] W (TOut (fullS s deep) (fun _ => True) W)) := fun W hW => prog_full deep (fun _ => True) _ _ s W (HS.out.below hW (Nat.le_refl _)) hf (fun _ _ => trivial)
      have hbad := @full_bad s deep
      have hstp := full_steps s deep
      have hfx : Fits big (fullS s deep).s := fits_fullS deep hf
      have hlow := fun l t (h : Steps s l t) => steps_low h h1 h2
      generalize fullS s deep = x at *
      unfold TOut ndV stV at C1
      clear h1 h2
      by_cases he : x.e = 0
      · have hst := hstp he
        have hl := hlow _ _ hst
        have hlen : (leavesN x.h x.k).length ≤ 1099511627776 := by
          have q1 := steps_left hst
          by_cases q : leavesN x.h x.k = []
          · rw [q]
            exact Nat.zero_le _
          · have := hl q
            omega
        have C2 := Lib.hid (fun (va vb : Value) (W : World) (ha : StV W va s) (hb : StV W vb x.s) => passed_any (leavesN x.h x.k) s x.s va vb W ha hb hst hf hl)
        have C3 := Lib.hid (fun (v : Value) (W : World) (hn : NdArg W v x.h x.k) => Leaves_any x.h x.k v W hn hlen)
        have C4 := Lib.hid (fun (va vb : Value) (W : World) (ha : TkArg W va (leavesN x.h x.k)) (hb : TkArg W vb (leavesN x.h x.k)) => toks_same va vb (leavesN x.h x.k) W ha hb (by omega))
        have x3 : (x.e != 0) = false := by rw [he]; rfl
        generalize leavesN x.h x.k = ls at *
        rw [he] at C1
        clear hbad hstp hfx hlow hst hl hlen x3 he hf
        go_enter Try.func7, Try.ntmps7
        go_upto_region 1 with fail
        refine gen_world (fun X => Below w.heap.size w X ∧ Lies X w.heap.size (stB (.slice ta s.toks.length tc) s.at_ (.slice oa s.opn.length oc) s.wait)) ⟨below_one w _, Lies.new w _⟩ ?_
        rintro X ⟨bX, lX⟩
        obtain ⟨a0, a1, a2, a3⟩ := four_st lX
        have BX := Lib.hid bX
        have LX := Lib.hid lX
        clear bX lX
        go_upto_region 5 with (first
          | (go_at_call 18; refine (C1.out _ (afterL BX.out B1.out)).mono ?_; rintro e w2 ⟨ka2, kc2, ta2, tc2, oa2, oc2, rfl, k2, s2, b2⟩; have B2 := Lib.hid (afterL B1.out b2); have K2 := Lib.hid k2; have S3 := Lib.hid s2; clear k2 s2 b2 a0 a1 a2 a3)
          | (go_at_call 10; refine (CA.out _).mono ?_; rintro e w1 ⟨rfl, b1⟩; have B1 := Lib.hid b1; clear a0 a1 a2 a3; obtain ⟨a0, a1, a2, a3⟩ := four_st (LX.out.below b1 LX.out.lt); clear b1))
        refine gen_world (fun Y => Below w.heap.size w Y ∧ Lies Y w.heap.size (stB (.slice ta s.toks.length tc) s.at_ (.slice oa s.opn.length oc) s.wait) ∧ Lies Y w2.heap.size (ndO x.h (.slice ka2 (len x.k) kc2)) ∧ Lies Y (w2.heap.size + 1) (stB (.slice ta2 x.s.toks.length tc2) x.s.at_ (.slice oa2 x.s.opn.length oc2) x.s.wait) ∧ KOn Y (fun _ => True) (.slice ka2 (len x.k) kc2) x.k ∧ StOn Y (fun _ => True) (.slice ta2 x.s.toks.length tc2) (.slice oa2 x.s.opn.length oc2) x.s) ?_ ?_
        · have b4 := below_two' w2 (ndO x.h (.slice ka2 (len x.k) kc2)) (stB (.slice ta2 x.s.toks.length tc2) x.s.at_ (.slice oa2 x.s.opn.length oc2) x.s.wait)
          exact ⟨afterL BX.out (afterL B2.out b4), LX.out.below (afterL B2.out b4) LX.out.lt, (two_lie w2 _ _).1, (two_lie w2 _ _).2, KOn.below K2.out b4 (Nat.le_refl _), S3.out.below b4 (Nat.le_refl _)⟩
        rintro Y ⟨bY, lY, nY, tY, kY, sY⟩
        generalize w2.heap.size = M at *
        obtain ⟨a0, a1, a2, a3⟩ := four_st lY
        obtain ⟨q0, q1, q2, q3⟩ := four_st tY
        obtain ⟨d0, d1, d2, d3, d4, d5⟩ := nY.node
        have AY := Lib.hid (C2.out _ _ Y (HS.out.below bY (Nat.le_refl _)).st sY.st)
        have BY := Lib.hid bY
        have NY := Lib.hid nY
        have KY := Lib.hid kY
        unfold stV at AY
        unfold NdArg ndV at C3
        clear bY lY nY tY kY sY BX LX B2 K2 S3 C1 C2 CA B1 HS
        go_upto_region 8 with (first
          | (go_at_call 21; refine AY.out.mono ?_; rintro e w3 ⟨lv, rfl, l3, b3⟩; have B3 := Lib.hid b3; have L3 := Lib.hid l3; clear a0 a1 a2 a3 q0 q1 q2 q3 d0 d1 d2 d3 d4 d5; obtain ⟨d0, d1, d2, d3, d4, d5⟩ := (NY.out.below b3 NY.out.lt).node; clear b3 l3))
        have K3 := Lib.hid (C3.out _ w3 ⟨_, rfl, (KOn.below KY.out B3.out (Nat.le_refl _)).arg⟩)
        clear AY C3
        go_wp2_with (first
          | (go_at_call 23; refine K3.out.mono ?_; rintro e w4 ⟨rv, rfl, l4, b4⟩; have B4 := Lib.hid (afterL B3.out b4); have L4 := Lib.hid l4; have L34 := Lib.hid (L3.out.below b4 (Nat.le_refl _)); clear b4 l4 d0 d1 d2 d3 d4 d5)
          | (go_at_call 22; refine (C4.out _ _ w4 L4.out.arg L34.out).mono ?_; rintro e w5 ⟨rfl, b5⟩; have B5 := Lib.hid (afterL B4.out b5); clear b5))
        go_ret
        exact ⟨rfl, afterL BY.out B5.out⟩
      · obtain ⟨hh, hk⟩ := hbad he
        have x3 : (x.e != 0) = true := bne_iff_ne.2 he
        have C5 := Lib.hid (fun (va vb : Value) (W : World) (ha : NdArg W va x.h x.k) (hb : NdArg W vb zeroN .nil) => Same_any x.h zeroN x.k .nil va vb W ha hb)
        have er : (sameH x.h zeroN && sameF x.k .nil) = true := by
          rw [hh, hk]
          rfl
        rw [er] at C5
        unfold NdArg ndV zeroN at C5
        clear hbad hstp hfx hlow he hf hh hk er HS
        go_enter Try.func7, Try.ntmps7
        go_upto_region 1 with fail
        refine gen_world (fun X => Below w.heap.size w X ∧ Lies X w.heap.size (stB (.slice ta s.toks.length tc) s.at_ (.slice oa s.opn.length oc) s.wait)) ⟨below_one w _, Lies.new w _⟩ ?_
        rintro X ⟨bX, lX⟩
        obtain ⟨a0, a1, a2, a3⟩ := four_st lX
        have BX := Lib.hid bX
        have LX := Lib.hid lX
        clear bX lX
        go_upto_region 5 with (first
          | (go_at_call 18; refine (C1.out _ (afterL BX.out B1.out)).mono ?_; rintro e w2 ⟨ka2, kc2, ta2, tc2, oa2, oc2, rfl, k2, s2, b2⟩; have B2 := Lib.hid (afterL B1.out b2); have K2 := Lib.hid k2; have S3 := Lib.hid s2; clear k2 s2 b2 a0 a1 a2 a3)
          | (go_at_call 10; refine (CA.out _).mono ?_; rintro e w1 ⟨rfl, b1⟩; have B1 := Lib.hid b1; clear a0 a1 a2 a3; obtain ⟨a0, a1, a2, a3⟩ := four_st (LX.out.below b1 LX.out.lt); clear b1))
        refine gen_world (fun Y => Below w.heap.size w Y ∧ Lies Y w2.heap.size (ndO x.h (.slice ka2 (len x.k) kc2)) ∧ KOn Y (fun _ => True) (.slice ka2 (len x.k) kc2) x.k) ?_ ?_
        · have b4 := below_two' w2 (ndO x.h (.slice ka2 (len x.k) kc2)) (stB (.slice ta2 x.s.toks.length tc2) x.s.at_ (.slice oa2 x.s.opn.length oc2) x.s.wait)
          exact ⟨afterL BX.out (afterL B2.out b4), (two_lie w2 _ _).1, KOn.below K2.out b4 (Nat.le_refl _)⟩
        rintro Y ⟨bY, nY, kY⟩
        generalize w2.heap.size = M at *
        obtain ⟨d0, d1, d2, d3, d4, d5⟩ := nY.node
        have BY := Lib.hid bY
        have K3 := Lib.hid (C5.out _ _ Y ⟨_, rfl, kY.arg⟩ ⟨.slice none 0 0, rfl, .inl ⟨rfl, _, _, rfl⟩⟩)
        clear bY nY kY BX LX B2 K2 S3 C1 CA B1 C5
        go_wp2_with (first
          | (go_at_call 20; refine K3.out.mono ?_; rintro e w4 ⟨rfl, b4⟩; have B4 := Lib.hid b4; clear b4 d0 d1 d2 d3 d4 d5))
        go_ret
        exact ⟨rfl, afterL BY.out B4.out⟩
    · have y2 : decide ((s.opn.length : Int) > 100) = true := decide_eq_true (by omega)
      have z2 : decide ((100 : Int) < (s.opn.length : Int)) = true := decide_eq_true (by omega)
      clear h1 h2 HS
      go_enter Try.func7, Try.ntmps7
      go_upto_region 1 with fail
      refine gen_world (fun X => Below w.heap.size w X ∧ Lies X w.heap.size (stB (.slice ta s.toks.length tc) s.at_ (.slice oa s.opn.length oc) s.wait)) ⟨below_one w _, Lies.new w _⟩ ?_
      rintro X ⟨bX, lX⟩
      have BX := Lib.hid bX
      have LX := Lib.hid lX
      clear bX lX
      go_wp2_with (first
        | (go_at_call 10; refine (CA.out _).mono ?_; rintro e w1 ⟨rfl, b1⟩; have B1 := Lib.hid b1; obtain ⟨a0, a1, a2, a3⟩ := four_st (LX.out.below b1 LX.out.lt); clear b1))
      go_ret
      exact ⟨rfl, afterL BX.out B1.out⟩
  · have y1 : decide ((s.toks.length : Int) > 100) = true := decide_eq_true (by omega)
    have z1 : decide ((100 : Int) < (s.toks.length : Int)) = true := decide_eq_true (by omega)
    clear h1 HS
    go_enter Try.func7, Try.ntmps7
    go_upto_region 1 with fail
    refine gen_world (fun X => Below w.heap.size w X ∧ Lies X w.heap.size (stB (.slice ta s.toks.length tc) s.at_ (.slice oa s.opn.length oc) s.wait)) ⟨below_one w _, Lies.new w _⟩ ?_
    rintro X ⟨bX, lX⟩
    have BX := Lib.hid bX
    have LX := Lib.hid lX
    clear bX lX
    go_wp2_with (first
      | (go_at_call 10; refine (CA.out _).mono ?_; rintro e w1 ⟨rfl, b1⟩; have B1 := Lib.hid b1; obtain ⟨a0, a1, a2, a3⟩ := four_st (LX.out.below b1 LX.out.lt); clear b1))
    go_ret
    exact ⟨rfl, afterL BX.out B1.out⟩
end Go.Proofs.Ytmgclgojmckfhaa.Typ
