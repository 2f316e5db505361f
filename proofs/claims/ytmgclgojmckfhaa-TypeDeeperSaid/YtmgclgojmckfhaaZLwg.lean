/-
  The law TypeDeeper. No condition.
-/
import Derived.Test.YtmgclgojmckfhaaZLwf
namespace Go.Proofs.Ytmgclgojmckfhaa.Typ
open Tks Tre Go.RowKit
open Lay (Sx StV Fit9 nextS NextOut tkV9 IntArg Kp)
set_option linter.unusedSimpArgs false
set_option linter.unusedVariables false

theorem two_same (x : Rd) (hf : Fit9 x.s) (kv kv2 tv ov tv2 ov2 : Value) (w : World) (hk : KOn w (fun _ => True) kv x.k) (hk2 : KOn w (fun _ => True) kv2 x.k) :
    Calls Try.prog 24 #[ndV x.h kv, ndV x.h kv2] w fun e w' => e = .returned (.bool true) ∧ Below w.heap.size w w' := by
  have q := refsameall_any x.h x.k x.h x.k (ndV x.h kv) (ndV x.h kv2) w ⟨kv, rfl, hk.arg⟩ ⟨kv2, rfl, hk2.arg⟩
  rw [show sameAH x.h x.h = true by simp [sameAH], sameAF_self] at q
  exact q
set_option maxRecDepth 1000000 in
set_option maxHeartbeats 4000000 in
theorem deeper_walk (v : Value) (s : Sx) (deep more : Int) (w : World) (hv : StV w v s) :
    Calls Try.prog 8 #[v, .int .i64 deep, .int .i64 more] w fun e w' => e = .returned (.bool true) ∧ Below w.heap.size w w' := by
  obtain ⟨tv, ov, rfl, ht, ho⟩ := hv
  have hs : StOn w (fun _ => True) tv ov s := StOn.of ht ho (fun _ _ => trivial)
  obtain ⟨ta, tc, oa, oc, rfl, rfl⟩ := hs.len
  have HS := Lib.hid hs
  have CS : Hid (∀ W, Below w.heap.size w W → _) := fun W hW => tsmall_any (fun _ => True) (.slice ta s.toks.length tc) (.slice oa s.opn.length oc) s W (hs.below hW (Nat.le_refl _))
  have CA := Lib.hid (fun W => tawake_any W)
  unfold stV at CS
  clear ht ho hs
  cases hm : smallB s with
  | false =>
    rw [hm] at CS
    clear hm HS
    go_enter Try.func8, Try.ntmps8
    go_upto_region 1 with fail
    refine gen_world (fun X => Below w.heap.size w X ∧ Lies X w.heap.size (stB (.slice ta s.toks.length tc) s.at_ (.slice oa s.opn.length oc) s.wait)) ⟨below_one w _, Lies.new w _⟩ ?_
    rintro X ⟨bX, lX⟩
    obtain ⟨a0, a1, a2, a3⟩ := four_st lX
    have BX := Lib.hid bX
    have LX := Lib.hid lX
    clear bX lX
    go_wp2_with (first
      | (go_at_call 10; refine (CA.out _).mono ?_; rintro e w1 ⟨rfl, b1⟩; have B1 := Lib.hid b1; clear a0 a1 a2 a3; obtain ⟨a0, a1, a2, a3⟩ := four_st (LX.out.below b1 LX.out.lt); clear b1)
      | (go_at_call 9; refine (CS.out _ (afterL BX.out B1.out)).mono ?_; rintro e w2 ⟨rfl, b2⟩; have B2 := Lib.hid (afterL B1.out b2); clear a0 a1 a2 a3; obtain ⟨a0, a1, a2, a3⟩ := four_st (LX.out.below B2.out LX.out.lt); clear b2))
    go_ret
    exact ⟨rfl, afterL BX.out B2.out⟩
  | true =>
    rw [hm] at CS
    have hf := small_fits hm
    by_cases hd : more < deep
    · have x1 : decide (more < deep) = true := decide_eq_true hd
      clear hm hf HS hd
      go_enter Try.func8, Try.ntmps8
      go_upto_region 1 with fail
      refine gen_world (fun X => Below w.heap.size w X ∧ Lies X w.heap.size (stB (.slice ta s.toks.length tc) s.at_ (.slice oa s.opn.length oc) s.wait)) ⟨below_one w _, Lies.new w _⟩ ?_
      rintro X ⟨bX, lX⟩
      obtain ⟨a0, a1, a2, a3⟩ := four_st lX
      have BX := Lib.hid bX
      have LX := Lib.hid lX
      clear bX lX
      go_wp2_with (first
        | (go_at_call 10; refine (CA.out _).mono ?_; rintro e w1 ⟨rfl, b1⟩; have B1 := Lib.hid b1; clear a0 a1 a2 a3; obtain ⟨a0, a1, a2, a3⟩ := four_st (LX.out.below b1 LX.out.lt); clear b1)
        | (go_at_call 9; refine (CS.out _ (afterL BX.out B1.out)).mono ?_; rintro e w2 ⟨rfl, b2⟩; have B2 := Lib.hid (afterL B1.out b2); clear a0 a1 a2 a3; obtain ⟨a0, a1, a2, a3⟩ := four_st (LX.out.below B2.out LX.out.lt); clear b2))
      go_ret
      exact ⟨rfl, afterL BX.out B2.out⟩
    have x1 : decide (more < deep) = false := decide_eq_false hd
    have hfx : Fit9 (fullS s deep).s := (fits_fullS deep hf).nine big_le
    have C1 : Hid (∀ W, Below w.heap.size w W → Calls Try.prog 18 #[stV (.slice ta s.toks.length tc) s.at_ (.slice oa s.opn.length oc) s.wait, .int .i64 deep] W (TOut (fullS s deep) (fun _ => True) W)) := fun W hW => prog_full deep (fun _ => True) _ _ s W (HS.out.below hW (Nat.le_refl _)) hf (fun _ _ => trivial)
    have C2 : Hid (∀ W, Below w.heap.size w W → Calls Try.prog 18 #[stV (.slice ta s.toks.length tc) s.at_ (.slice oa s.opn.length oc) s.wait, .int .i64 more] W (TOut (fullS s more) (fun _ => True) W)) := fun W hW => prog_full more (fun _ => True) _ _ s W (HS.out.below hW (Nat.le_refl _)) hf (fun _ _ => trivial)
    have hmore : (fullS s deep).e ≠ 2 → fullS s more = fullS s deep := fun h => full_more s deep more (by omega) h
    generalize fullS s deep = x at *
    generalize fullS s more = y at *
    by_cases he : x.e = 2
    · have x2 : (x.e == 2) = true := beq_iff_eq.2 he
      unfold TOut ndV stV at C1
      clear hm hf hfx hd HS hmore C2 he
      go_enter Try.func8, Try.ntmps8
      go_upto_region 1 with fail
      refine gen_world (fun X => Below w.heap.size w X ∧ Lies X w.heap.size (stB (.slice ta s.toks.length tc) s.at_ (.slice oa s.opn.length oc) s.wait)) ⟨below_one w _, Lies.new w _⟩ ?_
      rintro X ⟨bX, lX⟩
      obtain ⟨a0, a1, a2, a3⟩ := four_st lX
      have BX := Lib.hid bX
      have LX := Lib.hid lX
      clear bX lX
      go_wp2_with (first
        | (go_at_call 10; refine (CA.out _).mono ?_; rintro e w1 ⟨rfl, b1⟩; have B1 := Lib.hid b1; clear a0 a1 a2 a3; obtain ⟨a0, a1, a2, a3⟩ := four_st (LX.out.below b1 LX.out.lt); clear b1)
        | (go_at_call 9; refine (CS.out _ (afterL BX.out B1.out)).mono ?_; rintro e w2 ⟨rfl, b2⟩; have B2 := Lib.hid (afterL B1.out b2); clear a0 a1 a2 a3; obtain ⟨a0, a1, a2, a3⟩ := four_st (LX.out.below B2.out LX.out.lt); clear b2)
        | (go_at_call 18; refine (C1.out _ (afterL BX.out B2.out)).mono ?_; rintro e w3 ⟨ka2, kc2, ta2, tc2, oa2, oc2, rfl, k2, s2, b3⟩; have B3 := Lib.hid (afterL B2.out b3); have K2 := Lib.hid k2; have S3 := Lib.hid s2; clear k2 s2 b3 a0 a1 a2 a3))
      go_ret
      exact ⟨rfl, afterL BX.out (afterL B3.out (below_two' _ _ _))⟩
    have x2 : (x.e == 2) = false := beq_eq_false_iff_ne.2 he
    have hy := hmore he
    subst hy
    have C3 := Lib.hid (fun kv kv2 tv ov tv2 ov2 W a b => two_same y hfx kv kv2 tv ov tv2 ov2 W a b)
    have C4 : Hid (∀ va vb W, StV W va y.s → StV W vb y.s → _) := fun va vb W a b => Lay.samestate_any va vb y.s W a b hfx
    unfold TOut ndV stV at C1 C2
    unfold ndV at C3
    clear hm hf hfx hd HS hmore he
    go_enter Try.func8, Try.ntmps8
    go_upto_region 1 with fail
    refine gen_world (fun X => Below w.heap.size w X ∧ Lies X w.heap.size (stB (.slice ta s.toks.length tc) s.at_ (.slice oa s.opn.length oc) s.wait)) ⟨below_one w _, Lies.new w _⟩ ?_
    rintro X ⟨bX, lX⟩
    obtain ⟨a0, a1, a2, a3⟩ := four_st lX
    have BX := Lib.hid bX
    have LX := Lib.hid lX
    clear bX lX
    go_upto_region 5 with (first
      | (go_at_call 10; refine (CA.out _).mono ?_; rintro e w1 ⟨rfl, b1⟩; have B1 := Lib.hid b1; clear a0 a1 a2 a3; obtain ⟨a0, a1, a2, a3⟩ := four_st (LX.out.below b1 LX.out.lt); clear b1)
      | (go_at_call 9; refine (CS.out _ (afterL BX.out B1.out)).mono ?_; rintro e w2 ⟨rfl, b2⟩; have B2 := Lib.hid (afterL B1.out b2); clear a0 a1 a2 a3; obtain ⟨a0, a1, a2, a3⟩ := four_st (LX.out.below B2.out LX.out.lt); clear b2)
      | (go_at_call 18; refine (C1.out _ (afterL BX.out B2.out)).mono ?_; rintro e w3 ⟨ka2, kc2, ta2, tc2, oa2, oc2, rfl, k2, s2, b3⟩; have B3 := Lib.hid (afterL B2.out b3); have K2 := Lib.hid k2; have S3 := Lib.hid s2; clear k2 s2 b3 a0 a1 a2 a3))
    refine gen_world (fun Y => Below w.heap.size w Y ∧ Lies Y w.heap.size (stB (.slice ta s.toks.length tc) s.at_ (.slice oa s.opn.length oc) s.wait) ∧ Lies Y w3.heap.size (ndO y.h (.slice ka2 (len y.k) kc2)) ∧ Lies Y (w3.heap.size + 1) (stB (.slice ta2 y.s.toks.length tc2) y.s.at_ (.slice oa2 y.s.opn.length oc2) y.s.wait) ∧ KOn Y (fun _ => True) (.slice ka2 (len y.k) kc2) y.k ∧ StOn Y (fun _ => True) (.slice ta2 y.s.toks.length tc2) (.slice oa2 y.s.opn.length oc2) y.s) ?_ ?_
    · have b4 := below_two' w3 (ndO y.h (.slice ka2 (len y.k) kc2)) (stB (.slice ta2 y.s.toks.length tc2) y.s.at_ (.slice oa2 y.s.opn.length oc2) y.s.wait)
      exact ⟨afterL BX.out (afterL B3.out b4), LX.out.below (afterL B3.out b4) LX.out.lt, (two_lie w3 _ _).1, (two_lie w3 _ _).2, KOn.below K2.out b4 (Nat.le_refl _), S3.out.below b4 (Nat.le_refl _)⟩
    rintro Y ⟨bY, lY, nY, tY, kY, sY⟩
    generalize w3.heap.size = M at *
    obtain ⟨a0, a1, a2, a3⟩ := four_st lY
    have BY := Lib.hid bY
    have LY := Lib.hid lY
    have NY := Lib.hid nY
    have TY := Lib.hid tY
    have KY := Lib.hid kY
    have SY := Lib.hid sY
    clear bY lY nY tY kY sY BX LX B2 K2 S3 CS C1 CA B1 B3
    go_upto_region 8 with (first
      | (go_at_call 18; refine (C2.out _ BY.out).mono ?_; rintro e w4 ⟨ka4, kc4, ta4, tc4, oa4, oc4, rfl, k4, s4, b4⟩; have B4 := Lib.hid b4; have K4 := Lib.hid k4; have S4 := Lib.hid s4; clear k4 s4 b4 a0 a1 a2 a3))
    refine gen_world (fun Z => Below w.heap.size w Z ∧ Lies Z M (ndO y.h (.slice ka2 (len y.k) kc2)) ∧ Lies Z (M + 1) (stB (.slice ta2 y.s.toks.length tc2) y.s.at_ (.slice oa2 y.s.opn.length oc2) y.s.wait) ∧ KOn Z (fun _ => True) (.slice ka2 (len y.k) kc2) y.k ∧ StOn Z (fun _ => True) (.slice ta2 y.s.toks.length tc2) (.slice oa2 y.s.opn.length oc2) y.s ∧ Lies Z w4.heap.size (ndO y.h (.slice ka4 (len y.k) kc4)) ∧ Lies Z (w4.heap.size + 1) (stB (.slice ta4 y.s.toks.length tc4) y.s.at_ (.slice oa4 y.s.opn.length oc4) y.s.wait) ∧ KOn Z (fun _ => True) (.slice ka4 (len y.k) kc4) y.k ∧ StOn Z (fun _ => True) (.slice ta4 y.s.toks.length tc4) (.slice oa4 y.s.opn.length oc4) y.s) ?_ ?_
    · have b4 := below_two' w4 (ndO y.h (.slice ka4 (len y.k) kc4)) (stB (.slice ta4 y.s.toks.length tc4) y.s.at_ (.slice oa4 y.s.opn.length oc4) y.s.wait)
      have b5 := afterL B4.out b4
      exact ⟨afterL BY.out b5, NY.out.below b5 NY.out.lt, TY.out.below b5 TY.out.lt, KOn.below KY.out b5 (Nat.le_refl _), SY.out.below b5 (Nat.le_refl _), (two_lie w4 _ _).1, (two_lie w4 _ _).2, KOn.below K4.out b4 (Nat.le_refl _), S4.out.below b4 (Nat.le_refl _)⟩
    rintro Z ⟨bZ, nZ, tZ, kZ, sZ, mZ, uZ, jZ, rZ⟩
    generalize w4.heap.size = M4 at *
    obtain ⟨c0, c1, c2, c3, c4, c5⟩ := nZ.node
    obtain ⟨a0, a1, a2, a3⟩ := four_st tZ
    obtain ⟨d0, d1, d2, d3, d4, d5⟩ := mZ.node
    obtain ⟨q0, q1, q2, q3⟩ := four_st uZ
    have BZ := Lib.hid bZ
    have TZ := Lib.hid tZ
    have UZ := Lib.hid uZ
    have SZ := Lib.hid sZ
    have RZ := Lib.hid rZ
    have AZ := Lib.hid (C3.out _ _ (.slice ta2 y.s.toks.length tc2) (.slice oa2 y.s.opn.length oc2) (.slice ta4 y.s.toks.length tc4) (.slice oa4 y.s.opn.length oc4) Z kZ jZ)
    clear bZ nZ tZ kZ sZ mZ uZ jZ rZ C3 BY LY NY TY KY SY B4 K4 S4 C2
    have e1 : (y.e == y.e) = true := beq_self_eq_true _
    go_wp2_with (first
      | (go_at_call 24; refine AZ.out.mono ?_; rintro e w5 ⟨rfl, b5⟩; have B5 := Lib.hid b5; clear a0 a1 a2 a3 q0 q1 q2 q3 c0 c1 c2 c3 c4 c5 d0 d1 d2 d3 d4 d5; obtain ⟨a0, a1, a2, a3⟩ := four_st (TZ.out.below b5 TZ.out.lt); obtain ⟨q0, q1, q2, q3⟩ := four_st (UZ.out.below b5 UZ.out.lt); clear b5)
      | (go_at_call 25; refine (C4.out _ _ _ (SZ.out.below B5.out (Nat.le_refl _)).st (RZ.out.below B5.out (Nat.le_refl _)).st).mono ?_; rintro e w6 ⟨rfl, b6⟩; have B6 := Lib.hid (afterL B5.out b6); clear b6))
    go_ret
    exact ⟨rfl, afterL BZ.out B6.out⟩
end Go.Proofs.Ytmgclgojmckfhaa.Typ
