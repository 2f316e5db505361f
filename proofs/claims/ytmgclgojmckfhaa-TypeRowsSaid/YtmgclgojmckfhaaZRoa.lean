/-
  The document's round: brackets that end at once, or behind commas or an arrow. Conditions: what the document's Next and Type do, and sizes that are borne.
-/
import Derived.Test.YtmgclgojmckfhaaZTypB
namespace Go.Proofs.Ytmgclgojmckfhaa.Typ
open Tks Tre Go.RowKit
open Lay (Sx StV Fit9 nextS NextOut tkV9 IntArg)
set_option linter.unusedSimpArgs false
set_option linter.unusedVariables false

set_option maxRecDepth 1000000 in
set_option maxHeartbeats 400000 in
theorem round_a {N : Nat} (hN : N ≤ 1099511627776) (R : NextOn 59) (T : Sx → Rd) (deep deep1 : Int) (P : Nat → Prop) (v : Value) (l : List Nv) (tv ov : Value) (s : Sx) (w : World) (hr : NdP w 0 P v l) (hs : StOn w (Px P v) tv ov s) (hf : Fits N s) (hP : ∀ b, w.heap.size ≤ b → P b) (K : Nat) (hK : K ≤ 1099511627776) (hl : l.length + 2 * lf s + 4 ≤ K) (h12 : isR s 15 [41] = true ∨ isR s 15 [41] = false ∧ isR s 15 [44] = true) :
    Calls Try.prog 55 #[v, stV tv s.at_ ov s.wait, .int .i64 deep] w (RdOutG (roundR T (foL l) s) P v.ownBlock w) := by
  obtain ⟨ta, tc, oa, oc, rfl, rfl⟩ := hs.len
  obtain ⟨va, vc, rfl⟩ := hr.slice
  have C1 := Lib.hid (fun Q W h => is_any hN R Q (.slice ta s.toks.length tc) (.slice oa s.opn.length oc) s 15 ⟨#[41]⟩ W h hf)
  have C2 := Lib.hid (fun Q W h => is_any hN R Q (.slice ta s.toks.length tc) (.slice oa s.opn.length oc) s 15 ⟨#[44]⟩ W h hf)
  have CC := Lib.hid (fun Q W h1 h2 h3 => commas_any hN R Q (.slice va l.length vc) l (.slice ta s.toks.length tc) (.slice oa s.opn.length oc) s W h1 h2 hf h3 1099511627775 (Nat.le_refl _) (by omega))
  unfold RdOutG rdV at CC
  unfold stV at C1 C2 CC
  change Hid (∀ Q W, _ → Calls _ _ _ _ (fun e w' => e = .returned (.bool (isR s 15 [41])) ∧ _)) at C1
  change Hid (∀ Q W, _ → Calls _ _ _ _ (fun e w' => e = .returned (.bool (isR s 15 [44])) ∧ _)) at C2
  have HW : Hid (roundR T (foL l) s = commasR (fu s) (foL l) s) := if_pos (h12.elim (fun h => .inl h) (fun h => .inr h.2))
  generalize commasR (fu s) (foL l) s = y at *
  unfold stV
  have HS := Lib.hid hs
  have HP := Lib.hid hP
  have HN := Lib.hid hr
  have HF := Lib.hid hf
  have HL := Lib.hid hl
  have HKK := Lib.hid hK
  generalize hXX : roundR T (foL l) s = x at *
  clear hs hf hP R hr hl hK
  go_enter Try.func55, Try.ntmps55
  go_upto_region 1 with fail
  refine gen_world (fun X => Below w.heap.size w X ∧ Lies X w.heap.size (stB (.slice ta s.toks.length tc) s.at_ (.slice oa s.opn.length oc) s.wait) ∧ Lies X (w.heap.size + 1) kRd) ⟨below_two' w _ _, (two_lie w _ _).1, (two_lie w _ _).2⟩ ?_
  rintro X ⟨bX, lX, rX⟩
  have hr2 := rX.lt
  have OX := HS.out.intox (l := [w.heap.size, w.heap.size + 1]) bX (by simp)
  have NX := HN.out.into (ls := [w.heap.size, w.heap.size + 1]) bX (by simp)
  have PX := Pxm.of (v := .slice va l.length vc) (l := [w.heap.size, w.heap.size + 1]) HP.out (by simp; omega) (fun b e => (NX.lt e).2) bX.size
  have PX2 := Pm.of (l := [w.heap.size, w.heap.size + 1]) HP.out (by simp; omega) bX.size
  have nR : Hid (w.heap.size < w.heap.size + 1) := Nat.lt_succ_self _
  generalize w.heap.size + 1 = R2 at *
  obtain ⟨a0, a1, a2, a3⟩ := four_st lX
  have MX := Lib.hid ((Mv.refl w (.slice va l.length vc)).after bX)
  have BC := Lib.hid (Below.refl X.heap.size X)
  have t1 : True := trivial
  have SZ0 := Lib.hid bX.size
  have I1 := Lib.hid (fun W (h : Below X.heap.size X W) => C1.out _ W (OX.below h (Nat.le_refl _)))
  have I2 := Lib.hid (fun W (h : Below X.heap.size X W) => C2.out _ W (OX.below h (Nat.le_refl _)))
  have IC := Lib.hid (fun W (h : Below X.heap.size X W) => CC.out (Pm P [w.heap.size, R2]) W (NX.below h (Nat.le_refl _)) (OX.below h (Nat.le_refl _)) (fun b hb => PX2 b (Nat.le_trans h.size hb)))
  generalize isR s 15 [41] = i1 at *
  generalize isR s 15 [44] = i2 at *
  have RX := Lib.hid rX
  have LX := Lib.hid lX
  have HNX := Lib.hid NX
  have HOX := Lib.hid OX
  clear bX lX rX HS HN hr2 OX NX PX PX2
  clear C1 C2 CC
  rcases h12 with rfl | ⟨rfl, rfl⟩
  · go_wp2_with (first
      | (go_at_call 38; clear t1; have t2 : True := trivial; refine (I1.out _ BC.out).mono ?_; rintro e w1 ⟨rfl, b1⟩; have BC := Lib.hid (afterL BC.out b1); have l1 := LX.out.below BC.out LX.out.lt; clear a0 a1 a2 a3 b1; obtain ⟨a0, a1, a2, a3⟩ := four_st l1; clear l1)
      | (go_at_call 38; clear t2; have t3 : True := trivial; refine (I2.out _ BC.out).mono ?_; rintro e w1 ⟨rfl, b1⟩; have BC := Lib.hid (afterL BC.out b1); have l1 := LX.out.below BC.out LX.out.lt; clear a0 a1 a2 a3 b1; obtain ⟨a0, a1, a2, a3⟩ := four_st l1; clear l1)
      | (go_at_call 66; refine (IC.out _ BC.out).mono ?_; rintro e w2 ⟨ka2, kc2, ta2, tc2, oa2, oc2, rfl, k2, s2, b2⟩; have M2 := Lib.hid ((MX.out.after BC.out).trans (⟨b2, .inl rfl⟩ : Mv _ w2 (.slice va l.length vc) (.slice va l.length vc))); have K2 := Lib.hid k2; have S2 := Lib.hid s2; have r2 := (⟨b2, .inl rfl⟩ : Mv _ w2 (.slice va l.length vc) (.slice va l.length vc)).lies (RX.out.below BC.out RX.out.lt) (fun e => (HNX.out.own _ e).2 (by simp)); clear b2 k2 s2; unfold kRd at r2; obtain ⟨f0, f1, f2, f3, f4, f5, f6, f7, f8, f9, f10⟩ := free11 r2; obtain ⟨e0, e1, e2, e3, e4, e5, e6, e7, e8, e9, e10⟩ := eleven r2; dsimp only [zeroN] at e0 e1 e2 e3 e4; have R3 := Lib.hid r2; clear r2))
    refine bodyPost_ret (res_rd Try.results55 rfl (set11_lies R3.out y.h (.slice ka2 (len y.k) kc2) (.slice ta2 y.s.toks.length tc2) y.s.at_ (.slice oa2 y.s.opn.length oc2) y.s.wait y.e)) rfl ?_
    rw [show x = y from HW.out]
    exact rdg_done M2.out (Nat.le_of_lt nR.out) K2.out S2.out (fun b hb q => ⟨q.1, fun e => q.2 (by rw [e]; simp)⟩)
  · go_wp2_with (first
      | (go_at_call 38; clear t1; have t2 : True := trivial; refine (I1.out _ BC.out).mono ?_; rintro e w1 ⟨rfl, b1⟩; have BC := Lib.hid (afterL BC.out b1); have l1 := LX.out.below BC.out LX.out.lt; clear a0 a1 a2 a3 b1; obtain ⟨a0, a1, a2, a3⟩ := four_st l1; clear l1)
      | (go_at_call 38; clear t2; have t3 : True := trivial; refine (I2.out _ BC.out).mono ?_; rintro e w1 ⟨rfl, b1⟩; have BC := Lib.hid (afterL BC.out b1); have l1 := LX.out.below BC.out LX.out.lt; clear a0 a1 a2 a3 b1; obtain ⟨a0, a1, a2, a3⟩ := four_st l1; clear l1)
      | (go_at_call 66; refine (IC.out _ BC.out).mono ?_; rintro e w2 ⟨ka2, kc2, ta2, tc2, oa2, oc2, rfl, k2, s2, b2⟩; have M2 := Lib.hid ((MX.out.after BC.out).trans (⟨b2, .inl rfl⟩ : Mv _ w2 (.slice va l.length vc) (.slice va l.length vc))); have K2 := Lib.hid k2; have S2 := Lib.hid s2; have r2 := (⟨b2, .inl rfl⟩ : Mv _ w2 (.slice va l.length vc) (.slice va l.length vc)).lies (RX.out.below BC.out RX.out.lt) (fun e => (HNX.out.own _ e).2 (by simp)); clear b2 k2 s2; unfold kRd at r2; obtain ⟨f0, f1, f2, f3, f4, f5, f6, f7, f8, f9, f10⟩ := free11 r2; obtain ⟨e0, e1, e2, e3, e4, e5, e6, e7, e8, e9, e10⟩ := eleven r2; dsimp only [zeroN] at e0 e1 e2 e3 e4; have R3 := Lib.hid r2; clear r2))
    refine bodyPost_ret (res_rd Try.results55 rfl (set11_lies R3.out y.h (.slice ka2 (len y.k) kc2) (.slice ta2 y.s.toks.length tc2) y.s.at_ (.slice oa2 y.s.opn.length oc2) y.s.wait y.e)) rfl ?_
    rw [show x = y from HW.out]
    exact rdg_done M2.out (Nat.le_of_lt nR.out) K2.out S2.out (fun b hb q => ⟨q.1, fun e => q.2 (by rw [e]; simp)⟩)
end Go.Proofs.Ytmgclgojmckfhaa.Typ
/-
  The document's round: brackets that end at once, or behind commas or an arrow. Conditions: what the document's Next and Type do, and sizes that are borne.
-/
namespace Go.Proofs.Ytmgclgojmckfhaa.Typ
open Tks Tre Go.RowKit
open Lay (Sx StV Fit9 nextS NextOut tkV9 IntArg)
set_option linter.unusedSimpArgs false
set_option linter.unusedVariables false

set_option maxRecDepth 1000000 in
set_option maxHeartbeats 400000 in
theorem round_b {N : Nat} (hN : N ≤ 1099511627776) (R : NextOn 59) (T : Sx → Rd) (deep deep1 : Int) (P : Nat → Prop) (v : Value) (l : List Nv) (tv ov : Value) (s : Sx) (w : World) (hr : NdP w 0 P v l) (hs : StOn w (Px P v) tv ov s) (hf : Fits N s) (hP : ∀ b, w.heap.size ≤ b → P b) (K : Nat) (hK : K ≤ 1099511627776) (hl : l.length + 2 * lf s + 4 ≤ K) (h1 : isR s 15 [41] = false) (h2 : isR s 15 [44] = false) (h3 : isR s 10 [45, 62] = true) :
    Calls Try.prog 55 #[v, stV tv s.at_ ov s.wait, .int .i64 deep] w (RdOutG (roundR T (foL l) s) P v.ownBlock w) := by
  obtain ⟨ta, tc, oa, oc, rfl, rfl⟩ := hs.len
  obtain ⟨va, vc, rfl⟩ := hr.slice
  have C1 := Lib.hid (fun Q W h => is_any hN R Q (.slice ta s.toks.length tc) (.slice oa s.opn.length oc) s 15 ⟨#[41]⟩ W h hf)
  have C2 := Lib.hid (fun Q W h => is_any hN R Q (.slice ta s.toks.length tc) (.slice oa s.opn.length oc) s 15 ⟨#[44]⟩ W h hf)
  have C3 := Lib.hid (fun Q W h => is_any hN R Q (.slice ta s.toks.length tc) (.slice oa s.opn.length oc) s 10 ⟨#[45, 62]⟩ W h hf)
  have CT := Lib.hid (fun Q W h h2 => take_any hN R Q (.slice ta s.toks.length tc) (.slice oa s.opn.length oc) s W h hf h2)
  have CZ := Lib.hid (fun Q v l tv ov W h1 h2 h3 h4 => commas0_any hN R Q v l tv ov (takeR s).s W h1 h2 (fits_take hf) h3 h4)
  unfold RdOut rdV at CT
  unfold RdOutG rdV at CZ
  unfold stV at C1 C2 C3 CT CZ
  change Hid (∀ Q W, _ → Calls _ _ _ _ (fun e w' => e = .returned (.bool (isR s 15 [41])) ∧ _)) at C1
  change Hid (∀ Q W, _ → Calls _ _ _ _ (fun e w' => e = .returned (.bool (isR s 15 [44])) ∧ _)) at C2
  change Hid (∀ Q W, _ → Calls _ _ _ _ (fun e w' => e = .returned (.bool (isR s 10 [45, 62])) ∧ _)) at C3
  rw [h1] at C1
  rw [h2] at C2
  rw [h3] at C3
  have HW : Hid (roundR T (foL l) s = closeR 3 41 (pushF (foL l) (takeR s)) (takeR s).s) := by
    unfold Hid roundR
    rw [if_neg (by rw [h1, h2]; decide), if_pos h3]
  generalize takeR s = y at *
  obtain ⟨z, HZ⟩ : ∃ z, closeR 3 41 (pushF (foL l) y) y.s = z := ⟨_, rfl⟩
  rw [HZ] at HW
  unfold stV
  have HS := Lib.hid hs
  have HP := Lib.hid hP
  have HN := Lib.hid hr
  have HF := Lib.hid hf
  have HL := Lib.hid hl
  have HKK := Lib.hid hK
  generalize hXX : roundR T (foL l) s = x at *
  clear hs hf hP R hr hl hK h1 h2 h3
  go_enter Try.func55, Try.ntmps55
  go_upto_region 1 with fail
  refine gen_world (fun X => Below w.heap.size w X ∧ Lies X w.heap.size (stB (.slice ta s.toks.length tc) s.at_ (.slice oa s.opn.length oc) s.wait) ∧ Lies X (w.heap.size + 1) kRd) ⟨below_two' w _ _, (two_lie w _ _).1, (two_lie w _ _).2⟩ ?_
  rintro X ⟨bX, lX, rX⟩
  have hr2 := rX.lt
  have OX := HS.out.intox (l := [w.heap.size, w.heap.size + 1]) bX (by simp)
  have NX := HN.out.into (ls := [w.heap.size, w.heap.size + 1]) bX (by simp)
  have PX := Pxm.of (v := .slice va l.length vc) (l := [w.heap.size, w.heap.size + 1]) HP.out (by simp; omega) (fun b e => (NX.lt e).2) bX.size
  have PX2 := Pm.of (l := [w.heap.size, w.heap.size + 1]) HP.out (by simp; omega) bX.size
  have nR : Hid (w.heap.size < w.heap.size + 1) := Nat.lt_succ_self _
  generalize w.heap.size + 1 = R2 at *
  obtain ⟨a0, a1, a2, a3⟩ := four_st lX
  have MX := Lib.hid ((Mv.refl w (.slice va l.length vc)).after bX)
  have BC := Lib.hid (Below.refl X.heap.size X)
  have t1 : True := trivial
  have SZ0 := Lib.hid bX.size
  have I1 := Lib.hid (fun W (h : Below X.heap.size X W) => C1.out _ W (OX.below h (Nat.le_refl _)))
  have I2 := Lib.hid (fun W (h : Below X.heap.size X W) => C2.out _ W (OX.below h (Nat.le_refl _)))
  have I3 := Lib.hid (fun W (h : Below X.heap.size X W) => C3.out _ W (OX.below h (Nat.le_refl _)))
  have IT := Lib.hid (fun W (h : Below X.heap.size X W) => CT.out (Px (Pm P [w.heap.size, R2]) (.slice va l.length vc)) W (OX.below h (Nat.le_refl _)) (fun b hb => PX b (Nat.le_trans h.size hb)))
  have RX := Lib.hid rX
  have LX := Lib.hid lX
  have HNX := Lib.hid NX
  have HOX := Lib.hid OX
  clear bX lX rX HS HN hr2 OX NX PX PX2
  clear C1 C2 C3 CT
  go_upto_region 4 with (first
    | (go_at_call 38; clear t1; have t2 : True := trivial; refine (I1.out _ BC.out).mono ?_; rintro e w1 ⟨rfl, b1⟩; have BC := Lib.hid (afterL BC.out b1); have l1 := LX.out.below BC.out LX.out.lt; clear a0 a1 a2 a3 b1; obtain ⟨a0, a1, a2, a3⟩ := four_st l1; clear l1)
    | (go_at_call 38; clear t2; have t3 : True := trivial; refine (I2.out _ BC.out).mono ?_; rintro e w1 ⟨rfl, b1⟩; have BC := Lib.hid (afterL BC.out b1); have l1 := LX.out.below BC.out LX.out.lt; clear a0 a1 a2 a3 b1; obtain ⟨a0, a1, a2, a3⟩ := four_st l1; clear l1)
    | (go_at_call 38; clear t3; have t4 : True := trivial; refine (I3.out _ BC.out).mono ?_; rintro e w1 ⟨rfl, b1⟩; have BC := Lib.hid (afterL BC.out b1); have l1 := LX.out.below BC.out LX.out.lt; clear a0 a1 a2 a3 b1; obtain ⟨a0, a1, a2, a3⟩ := four_st l1; clear l1))
  go_upto_region 5 with (first
    | (go_at_call 39; refine (IT.out _ BC.out).mono ?_; rintro e w2 ⟨ka2, kc2, ta2, tc2, oa2, oc2, rfl, k2, s2, b2⟩; have B2 := Lib.hid b2; have K2 := Lib.hid k2; have S2 := Lib.hid s2; clear b2 k2 s2))
  refine gen_world (fun Z => Below X.heap.size X Z ∧ Lies Z w2.heap.size (rdO y.h (.slice ka2 (len y.k) kc2) (.slice ta2 y.s.toks.length tc2) y.s.at_ (.slice oa2 y.s.opn.length oc2) y.s.wait y.e) ∧ KOn Z (Px (Pm P [w.heap.size, R2]) (.slice va l.length vc)) (.slice ka2 (len y.k) kc2) y.k ∧ StOn Z (Px (Pm P [w.heap.size, R2]) (.slice va l.length vc)) (.slice ta2 y.s.toks.length tc2) (.slice oa2 y.s.opn.length oc2) y.s ∧ X.heap.size ≤ w2.heap.size) ⟨afterL (afterL BC.out B2.out) (below_one w2 _), Lies.new w2 _, K2.out.below (below_one w2 _) (Nat.le_refl _), S2.out.below (below_one w2 _) (Nat.le_refl _), Nat.le_trans BC.out.size B2.out.size⟩ ?_
  rintro Z ⟨bZ, yZ, kZ, sZ, hM⟩
  have MZ := Lib.hid (MX.out.after bZ)
  have RZ := Lib.hid (RX.out.below bZ RX.out.lt)
  have NZ := Lib.hid (HNX.out.below bZ (Nat.le_refl _))
  have hM3 : ∀ b, (Value.slice va l.length vc).ownBlock = some b → b < w2.heap.size := fun b e => Nat.lt_of_lt_of_le (HNX.out.lt e).2 hM
  have hM2 : R2 < w2.heap.size := Nat.lt_of_lt_of_le RX.out.lt hM
  generalize w2.heap.size = M at *
  obtain ⟨c0, c1, c2, c3, c4, c5, c6, c7, c8, c9, c10⟩ := eleven yZ
  have YZ := Lib.hid yZ
  have KZ := Lib.hid kZ
  have SZ := Lib.hid sZ
  have HM3 := Lib.hid hM3
  clear a0 a1 a2 a3 bZ kZ sZ hM hM3 hM2 B2 K2 S2 IT yZ RX HNX BC MX
  go_upto_region 6 with (first
    | (at_builtin; refine append_lit Z rfl _ _ rfl 0 (Pm P [w.heap.size, R2]) (.slice va l.length vc) l [⟨y.h, y.k, .slice ka2 (len y.k) kc2⟩] rfl NZ.out _ _ rfl _ _ rfl rfl (fun x hx => by rw [List.mem_singleton.1 hx]; exact KZ.out) (by have := HL.out; have := HKK.out; simp; omega) (Nat.zero_le _) (Pm.of HP.out (by have := RZ.out.lt; have := nR.out; simp; omega) MZ.out.grown.size) ?_; intro v3 w3 n3 m3; have S3 := m3.st SZ.out; have R3 := Lib.hid (m3.lies RZ.out (fun e => (NZ.out.own _ e).2 (by simp))); have y3 := m3.lies YZ.out (fun e => by have := HM3.out _ e; omega); have M3 := Lib.hid (MZ.out.trans m3); have p3 := Pm.of (l := [w.heap.size, R2]) HP.out (by have := R3.out.lt; have := nR.out; simp; omega) M3.out.grown.size; have iz := CZ.out _ _ _ _ _ w3 n3 S3 p3 (by have := HL.out; have := HKK.out; rw [List.length_append]; simp; omega); rw [foL_push, HZ] at iz; have IZ := Lib.hid iz; clear iz; have N3 := Lib.hid n3; clear n3 m3 S3 p3; clear c0 c1 c2 c3 c4 c5 c6 c7 c8 c9 c10; obtain ⟨c0, c1, c2, c3, c4, c5, c6, c7, c8, c9, c10⟩ := eleven y3; clear y3))
  go_wp2_with (first
    | (go_at_call 67; refine IZ.out.mono ?_; rintro e w4 ⟨ka4, kc4, ta4, tc4, oa4, oc4, rfl, k4, s4, b4⟩; have M4 := Lib.hid (M3.out.trans (⟨b4, .inl rfl⟩ : Mv w3 w4 v3 v3)); have K4 := Lib.hid k4; have S4 := Lib.hid s4; have r4 := (⟨b4, .inl rfl⟩ : Mv w3 w4 v3 v3).lies R3.out (fun e => (N3.out.own _ e).2 (by simp)); clear b4 k4 s4; unfold kRd at r4; obtain ⟨f0, f1, f2, f3, f4, f5, f6, f7, f8, f9, f10⟩ := free11 r4; obtain ⟨e0, e1, e2, e3, e4, e5, e6, e7, e8, e9, e10⟩ := eleven r4; dsimp only [zeroN] at e0 e1 e2 e3 e4; have R4 := Lib.hid r4; clear r4))
  refine bodyPost_ret (res_rd Try.results55 rfl (set11_lies R4.out z.h (.slice ka4 (len z.k) kc4) (.slice ta4 z.s.toks.length tc4) z.s.at_ (.slice oa4 z.s.opn.length oc4) z.s.wait z.e)) rfl ?_
  rw [show x = z from HW.out]
  exact rdg_done M4.out (Nat.le_of_lt nR.out) K4.out S4.out (fun b hb q => ⟨q.1, fun e => q.2 (by rw [e]; simp)⟩)
end Go.Proofs.Ytmgclgojmckfhaa.Typ
