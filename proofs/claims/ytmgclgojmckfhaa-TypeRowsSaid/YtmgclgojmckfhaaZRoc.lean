/-
  The document's round: a type or more of them. Conditions: what the document's Next and Type do, and sizes that are borne.
-/
import Derived.Test.YtmgclgojmckfhaaZTypB
namespace Go.Proofs.Ytmgclgojmckfhaa.Typ
open Tks Tre Go.RowKit
open Lay (Sx StV Fit9 nextS NextOut tkV9 IntArg)
set_option linter.unusedSimpArgs false
set_option linter.unusedVariables false

theorem lv_less {s t : Sx} {l : List Tk} (h : Steps s l t) : lf t ≤ lf s := by
  induction h with
  | nil s => exact Nat.le_refl _
  | cons e k _ ih => exact Nat.le_trans ih (Nat.le_of_lt (step_less e k))
set_option maxRecDepth 1000000 in
set_option maxHeartbeats 800000 in
theorem round_c {N : Nat} (hN : N ≤ 1099511627776) (R : NextOn 59) (T : Sx → Rd) (hTF : ∀ s, Fits N s → Fits N (T s).s) (hTL : ∀ s, Lv s (T s)) (deep deep1 : Int) (hd : IntKind.i64.wrap (deep - 1) = deep1) (CTY : ∀ (P : Nat → Prop) (tv ov : Value) (s : Sx) (W : World), StOn W P tv ov s → Fits N s → (∀ b, W.heap.size ≤ b → P b) → Calls Try.prog 17 #[stV tv s.at_ ov s.wait, .int .i64 deep1] W (RdOut (T s) P W.heap.size W)) (P : Nat → Prop) (v : Value) (l : List Nv) (tv ov : Value) (s : Sx) (w : World) (hr : NdP w 0 P v l) (hs : StOn w (Px P v) tv ov s) (hf : Fits N s) (hP : ∀ b, w.heap.size ≤ b → P b) (K : Nat) (hK : K ≤ 1099511627776) (hl : l.length + 2 * lf s + 4 ≤ K) (h1 : isR s 15 [41] = false) (h2 : isR s 15 [44] = false) (h3 : isR s 10 [45, 62] = false) :
    Calls Try.prog 55 #[v, stV tv s.at_ ov s.wait, .int .i64 deep] w (RdOutG (roundR T (foL l) s) P v.ownBlock w) := by
  obtain ⟨ta, tc, oa, oc, rfl, rfl⟩ := hs.len
  obtain ⟨va, vc, rfl⟩ := hr.slice
  have C1 := Lib.hid (fun Q W h => is_any hN R Q (.slice ta s.toks.length tc) (.slice oa s.opn.length oc) s 15 ⟨#[41]⟩ W h hf)
  have C2 := Lib.hid (fun Q W h => is_any hN R Q (.slice ta s.toks.length tc) (.slice oa s.opn.length oc) s 15 ⟨#[44]⟩ W h hf)
  have C3 := Lib.hid (fun Q W h => is_any hN R Q (.slice ta s.toks.length tc) (.slice oa s.opn.length oc) s 10 ⟨#[45, 62]⟩ W h hf)
  have CI := Lib.hid (fun Q tv ov s W h hf => is_any hN R Q tv ov s 15 ⟨#[44]⟩ W h hf)
  have CT := Lib.hid (fun Q tv ov s W h hf h2 => take_any hN R Q tv ov s W h hf h2)
  have CW := Lib.hid (fun Q tv ov s W h hf h2 => want_any hN R Q tv ov s 15 ⟨#[41]⟩ W h hf h2)
  have CY := Lib.hid CTY
  unfold RdOut rdV at CW CT CY
  unfold stV at C1 C2 C3 CI CT CW CY
  change Hid (∀ Q W, _ → Calls _ _ _ _ (fun e w' => e = .returned (.bool (isR s 15 [41])) ∧ _)) at C1
  change Hid (∀ Q W, _ → Calls _ _ _ _ (fun e w' => e = .returned (.bool (isR s 15 [44])) ∧ _)) at C2
  change Hid (∀ Q W, _ → Calls _ _ _ _ (fun e w' => e = .returned (.bool (isR s 10 [45, 62])) ∧ _)) at C3
  rw [h1] at C1
  rw [h2] at C2
  rw [h3] at C3
  have HTF := Lib.hid hTF
  have HTL := Lib.hid hTL
  have HCO : Hid (∃ f, lf s < f ∧ typesR T f 4 (foL l) s = roundR T (foL l) s) := by
    refine ⟨fu s, Nat.lt_succ_self _, ?_⟩
    unfold roundR
    rw [if_neg (by rw [h1, h2]; decide), if_neg (by rw [h3]; decide)]
  unfold stV
  have HS := Lib.hid hs
  have HP := Lib.hid hP
  have HN := Lib.hid hr
  have HF := Lib.hid hf
  have HL := Lib.hid hl
  have HKK := Lib.hid hK
  generalize hXX : roundR T (foL l) s = x at *
  clear hs hf hP R hr hl hK h1 h2 h3 CTY hTF hTL
  go_enter Try.func55, Try.ntmps55
  go_upto_region 1 with fail
  refine gen_world (fun X => Below w.heap.size w X ∧ Lies X w.heap.size (stB (.slice ta s.toks.length tc) s.at_ (.slice oa s.opn.length oc) s.wait) ∧ Lies X (w.heap.size + 1) kRd) ⟨below_two' w _ _, (two_lie w _ _).1, (two_lie w _ _).2⟩ ?_
  rintro X ⟨bX, lX, rX⟩
  have hr2 := rX.lt
  have OX := HS.out.intox (l := [w.heap.size, w.heap.size + 1]) bX (by simp)
  have NX := HN.out.into (ls := [w.heap.size, w.heap.size + 1]) bX (by simp)
  have PX := Pxm.of (v := .slice va l.length vc) (l := [w.heap.size, w.heap.size + 1]) HP.out (by simp; omega) (fun b e => (NX.lt e).2) bX.size
  have PX2 := Pm.of (l := [w.heap.size, w.heap.size + 1]) HP.out (by simp; omega) bX.size
  have nR : Hid (w.heap.size < w.heap.size + 1) := Nat.lt_succ_self _
  generalize w.heap.size + 1 = R2 at *
  obtain ⟨a0, a1, a2, a3⟩ := four_st lX
  have MX := Lib.hid ((Mv.refl w (.slice va l.length vc)).after bX)
  have BC := Lib.hid (Below.refl X.heap.size X)
  have t1 : True := trivial
  have SZ0 := Lib.hid bX.size
  have I1 := Lib.hid (fun W (h : Below X.heap.size X W) => C1.out _ W (OX.below h (Nat.le_refl _)))
  have I2 := Lib.hid (fun W (h : Below X.heap.size X W) => C2.out _ W (OX.below h (Nat.le_refl _)))
  have I3 := Lib.hid (fun W (h : Below X.heap.size X W) => C3.out _ W (OX.below h (Nat.le_refl _)))
  have RX := Lib.hid rX
  have LX := Lib.hid lX
  have HNX := Lib.hid NX
  have HOX := Lib.hid OX
  clear bX lX rX HS HN hr2 OX NX PX PX2
  clear C1 C2 C3
  go_upto_region 7 with (first
    | (go_at_call 38; clear t1; have t2 : True := trivial; refine (I1.out _ BC.out).mono ?_; rintro e w1 ⟨rfl, b1⟩; have BC := Lib.hid (afterL BC.out b1); have l1 := LX.out.below BC.out LX.out.lt; clear a0 a1 a2 a3 b1; obtain ⟨a0, a1, a2, a3⟩ := four_st l1; clear l1)
    | (go_at_call 38; clear t2; have t3 : True := trivial; refine (I2.out _ BC.out).mono ?_; rintro e w1 ⟨rfl, b1⟩; have BC := Lib.hid (afterL BC.out b1); have l1 := LX.out.below BC.out LX.out.lt; clear a0 a1 a2 a3 b1; obtain ⟨a0, a1, a2, a3⟩ := four_st l1; clear l1)
    | (go_at_call 38; clear t3; have t4 : True := trivial; refine (I3.out _ BC.out).mono ?_; rintro e w1 ⟨rfl, b1⟩; have BC := Lib.hid (afterL BC.out b1); have l1 := LX.out.below BC.out LX.out.lt; clear a0 a1 a2 a3 b1; obtain ⟨a0, a1, a2, a3⟩ := four_st l1; clear l1))
  go_wp2_with fail
  go_loopw [0, 8] (fun u kd wr => ∃ (l' : List Nv) (s' : Sx) (ta1 oa1 : Option Addr) (tc1 oc1 f : Nat) (kind : Int), kd = .int .i64 kind ∧ NdP wr 0 (Pm P [w.heap.size, R2]) u l' ∧ StOn wr (Px (Pm P [w.heap.size, R2]) u) (.slice ta1 s'.toks.length tc1) (.slice oa1 s'.opn.length oc1) s' ∧ Lies wr w.heap.size (stB (.slice ta1 s'.toks.length tc1) s'.at_ (.slice oa1 s'.opn.length oc1) s'.wait) ∧ Lies wr R2 kRd ∧ Mv w wr (.slice va l.length vc) u ∧ X.heap.size ≤ wr.heap.size ∧ Fits N s' ∧ l'.length + 2 * lf s' + 4 ≤ K ∧ lf s' < f ∧ typesR T f kind (foL l') s' = x) (fun u _ _ => K - lenOf u)
  case atStart =>
    obtain ⟨f, h1, h2⟩ := HCO.out
    exact ⟨l, s, ta, oa, tc, oc, f, 4, rfl, HNX.out.below BC.out (Nat.le_refl _), HOX.out.below BC.out (Nat.le_refl _), LX.out.below BC.out LX.out.lt, RX.out.below BC.out RX.out.lt, MX.out.after BC.out, BC.out.size, HF.out, HL.out, h1, h2⟩
  case round =>
    obtain ⟨l', s', ta1, oa1, tc1, oc1, f, kind, rfl, hn, hs, hl, hr, hb, hz, hf, hk, hlt, hx⟩ := hrel
    obtain ⟨va1, vc1, rfl⟩ := hn.slice
    clear HCO HNX HOX LX RX MX BC I1 I2 I3
    have PX := Pxm.of (v := (.slice va1 l'.length vc1)) (l := [w.heap.size, R2]) HP.out (by have := hl.lt; have := hr.lt; simp; omega) (fun b e => (hn.lt e).2) hb.grown.size
    have TX := Lib.hid (CY.out _ _ _ s' wr hs hf PX)
    obtain ⟨f, rfl⟩ : ∃ g, f = g + 1 := ⟨f - 1, by omega⟩
    unfold typesR at hx
    obtain ⟨a0, a1, a2, a3⟩ := four_st hl
    have HNX := Lib.hid hn
    have LX := Lib.hid hl
    have RX := Lib.hid hr
    have MX := Lib.hid hb
    have HZ := Lib.hid hz
    have HF1 := Lib.hid (HTF.out _ hf)
    have HKL := Lib.hid hk
    have HLT := Lib.hid hlt
    have HYL := Lib.hid (HTL.out s')
    clear hn hs hl hr hb hz hf hk hlt PX
    generalize T s' = y at *
    go_upto_region 9 with (first
      | (go_at_call 17; refine TX.out.mono ?_; rintro e w2 ⟨ka2, kc2, ta2, tc2, oa2, oc2, rfl, k2, s2, b2⟩; have B2 := Lib.hid b2; have K2 := Lib.hid k2; have S2 := Lib.hid s2; clear b2 k2 s2))
    refine gen_world (fun Z => Below wr.heap.size wr Z ∧ Lies Z w2.heap.size (rdO y.h (.slice ka2 (len y.k) kc2) (.slice ta2 y.s.toks.length tc2) y.s.at_ (.slice oa2 y.s.opn.length oc2) y.s.wait y.e) ∧ KOn Z (Px (Pm (Pm P [w.heap.size, R2]) [w2.heap.size]) (.slice va1 l'.length vc1)) (.slice ka2 (len y.k) kc2) y.k ∧ StOn Z (Px (Pm (Pm P [w.heap.size, R2]) [w2.heap.size]) (.slice va1 l'.length vc1)) (.slice ta2 y.s.toks.length tc2) (.slice oa2 y.s.opn.length oc2) y.s ∧ wr.heap.size ≤ w2.heap.size) ⟨afterL B2.out (below_one w2 _), Lies.new w2 _, KOn.intox K2.out (below_one w2 _) (by simp), S2.out.intox (below_one w2 _) (by simp), B2.out.size⟩ ?_
    rintro Z ⟨bZ, yZ, kZ, sZ, hM⟩
    have MZ := Lib.hid (MX.out.after bZ)
    have HZ2 := Lib.hid (Nat.le_trans HZ.out bZ.size)
    have RZ := Lib.hid (RX.out.below bZ RX.out.lt)
    have LZ := Lib.hid (LX.out.below bZ LX.out.lt)
    have NZ := Lib.hid (HNX.out.into (ls := [w2.heap.size]) bZ (by simpa using hM))
    have hM3 : ∀ b, ((.slice va1 l'.length vc1) : Value).ownBlock = some b → b < w2.heap.size := fun b e => Nat.lt_of_lt_of_le (HNX.out.lt e).2 hM
    have hM2 : R2 < w2.heap.size := Nat.lt_of_lt_of_le RX.out.lt hM
    have hM4 : w.heap.size < w2.heap.size := Nat.lt_of_lt_of_le LX.out.lt hM
    generalize w2.heap.size = M at *
    have YZ := Lib.hid yZ
    have KZ := Lib.hid kZ
    have SZ := Lib.hid sZ
    have HM3 := Lib.hid hM3
    have HM2 := Lib.hid hM2
    have HM4 := Lib.hid hM4
    clear a0 a1 a2 a3 bZ kZ sZ hM hM3 hM2 hM4 B2 K2 S2 TX RX LX HNX MX HZ
    by_cases h0 : y.e = 0
    · rw [if_pos h0] at hx
      have x1 : (y.e != 0) = false := by rw [bne, beq_iff_eq.2 h0]; rfl
      have HX := Lib.hid hx
      have HYL2 := Lib.hid (lv_less (HYL.out h0))
      obtain ⟨c0, c1, c2, c3, c4, c5, c6, c7, c8, c9, c10⟩ := eleven yZ
      clear h0 yZ hx HYL
      go_upto_region 13 with (first
        | (at_builtin; refine append_lit Z rfl _ _ rfl 0 (Pm (Pm P [w.heap.size, R2]) [M]) (.slice va1 l'.length vc1) l' [⟨y.h, y.k, .slice ka2 (len y.k) kc2⟩] rfl NZ.out _ _ rfl _ _ rfl rfl (fun x hx => by rw [List.mem_singleton.1 hx]; exact KZ.out) (by have := HKL.out; have := HKK.out; simp; omega) (Nat.zero_le _) (fun b hb => ⟨Pm.of HP.out (by have := RZ.out.lt; have := nR.out; simp; omega) MZ.out.grown.size b hb, by have := YZ.out.lt; simp; omega⟩) ?_; intro v3 w3 n3 m3; have S3 := Lib.hid (m3.st SZ.out); have R3 := Lib.hid (m3.lies RZ.out (fun e => (NZ.out.own _ e).1.2 (by simp))); have l3 := m3.lies LZ.out (fun e => (NZ.out.own _ e).1.2 (by simp)); have y3 := m3.lies YZ.out (fun e => by have := HM3.out _ e; omega); have M3 := Lib.hid (MZ.out.trans m3); have Z3 := Lib.hid (Nat.le_trans HZ2.out m3.grown.size); have N3 := Lib.hid n3; have Y3 := Lib.hid y3; clear n3 m3; clear c0 c1 c2 c3 c4 c5 c6 c7 c8 c9 c10; obtain ⟨c0, c1, c2, c3, c4, c5, c6, c7, c8, c9, c10⟩ := eleven y3; obtain ⟨a0, a1, a2, a3⟩ := four_st l3; obtain ⟨g0, g1, g2, g3⟩ := four_fr l3; have L3 := Lib.hid l3; clear l3 y3))
      have q4 := fun b (h : (Pm (Pm P [w.heap.size, R2]) [M]) b) => (show b ≠ w.heap.size from fun e => h.1.2 (by rw [e]; simp))
      refine gen_world (fun Y => NdP Y 0 (Pm (Pm P [w.heap.size, R2]) [M]) v3 (l' ++ ([⟨y.h, y.k, .slice ka2 (len y.k) kc2⟩] : List Nv)) ∧ StOn Y (Px (Pm (Pm P [w.heap.size, R2]) [M]) v3) (.slice ta2 y.s.toks.length tc2) (.slice oa2 y.s.opn.length oc2) y.s ∧ Lies Y w.heap.size (stB (.slice ta2 y.s.toks.length tc2) y.s.at_ (.slice oa2 y.s.opn.length oc2) y.s.wait) ∧ Lies Y R2 kRd ∧ Lies Y M (rdO y.h (.slice ka2 (len y.k) kc2) (.slice ta2 y.s.toks.length tc2) y.s.at_ (.slice oa2 y.s.opn.length oc2) y.s.wait y.e) ∧ Mv w Y (.slice va l.length vc) v3 ∧ X.heap.size ≤ Y.heap.size) ⟨NdP.set4 N3.out q4 _ _ _ _, StOn.set4 S3.out (fun b h => q4 b h.1) _ _ _ _, set4_lies L3.out _ _ _ _, set4_other R3.out (by have := nR.out; omega) _ _ _ _, set4_other Y3.out (by have := HM4.out; omega) _ _ _ _, M3.out.set4 (Nat.le_refl _) _ _ _ _, Nat.le_trans Z3.out (Nat.le_of_eq (set4_size _ _ _ _).symm)⟩ ?_
      rintro Y ⟨nY, sY, lY, rY, yY, mY, zY⟩
      have hQ := Pm.of (l := [w.heap.size, R2]) HP.out (by have := lY.lt; have := rY.lt; simp; omega) mY.grown.size
      have hQ2 : ∀ b, Y.heap.size ≤ b → (Pm (Pm P [w.heap.size, R2]) [M]) b := fun b hb => ⟨hQ b hb, by have := yY.lt; simp; omega⟩
      have hX2 : ∀ b, Y.heap.size ≤ b → Px (Pm (Pm P [w.heap.size, R2]) [M]) v3 b := fun b hb => ⟨hQ2 b hb, fun e => by have := (nY.lt e).2; omega⟩
      have PY := Pxm.of (v := v3) (l := [w.heap.size, R2]) HP.out (by have := lY.lt; have := rY.lt; simp; omega) (fun b e => (nY.lt e).2) mY.grown.size
      clear a0 a1 a2 a3 c0 c1 c2 c3 c4 c5 c6 c7 c8 c9 c10 g0 g1 g2 g3 q4
      obtain ⟨a0, a1, a2, a3⟩ := four_st lY
      have IY := Lib.hid (CI.out _ _ _ y.s Y sY HF1.out)
      change Hid (Calls _ _ _ _ (fun e w' => e = .returned (.bool (isR y.s 15 [44])) ∧ _)) at IY
      have IL := @is_less y.s 15 [44]
      have WX := Lib.hid (fun W (h : Below Y.heap.size Y W) => CW.out (Px (Pm P [w.heap.size, R2]) v3) _ _ y.s W ((sY.below h (Nat.le_refl _)).less (fun b _ q => ⟨q.1.1, q.2⟩)) HF1.out (fun b hb => PY b (Nat.le_trans h.size hb)))
      have TY := Lib.hid (fun W (h : Below Y.heap.size Y W) => CT.out (Px (Pm (Pm P [w.heap.size, R2]) [M]) v3) _ _ y.s W (sY.below h (Nat.le_refl _)) HF1.out (fun b hb => hX2 b (Nat.le_trans h.size hb)))
      have HQ2 := Lib.hid hQ2
      have HNX := Lib.hid nY
      have HOX := Lib.hid sY
      have LX := Lib.hid lY
      have RX := Lib.hid rY
      have YX := Lib.hid yY
      have MX := Lib.hid mY
      have HZ := Lib.hid zY
      have HF2 := Lib.hid (fits_take HF1.out)
      clear nY sY lY rY yY mY zY PY hQ hQ2 hX2 YZ KZ SZ NZ RZ LZ MZ HZ2 S3 R3 M3 Z3 N3 Y3 L3 HM3
      cases hi : isR y.s 15 [44] with
      | false =>
        rw [hi] at IY
        have hx := HX.out
        rw [if_neg (by rw [hi]; decide)] at hx
        have HW := Lib.hid (hx.symm.trans (closeR_eq kind 41 (pushF (foL l') y) y.s))
        obtain ⟨l9, hl9⟩ : ∃ l9, l' ++ [(⟨y.h, y.k, .slice ka2 (len y.k) kc2⟩ : Nv)] = l9 := ⟨_, rfl⟩
        have hf9 : pushF (foL l') y = foL l9 := by
          rw [← hl9, foL_push]
        have HL : Hid (l9.length + 1 ≤ 1099511627776) := by
          have := HKL.out
          have := HKK.out
          unfold Hid
          rw [← hl9, List.length_append]
          simp only [List.length_singleton]
          omega
        rw [hl9] at HNX
        rw [hf9] at HW
        clear hi hx IL TY HX HQ2 hl9 hf9 HKL HLT HYL2
        generalize wantR y.s 15 [41] = z at *
        go_upto_region 18 with (first
          | (go_at_call 38; refine IY.out.mono ?_; rintro e w1 ⟨rfl, b1⟩; have B1 := Lib.hid b1; have l1 := LX.out.below b1 LX.out.lt; clear a0 a1 a2 a3 b1; obtain ⟨a0, a1, a2, a3⟩ := four_st l1; clear l1))
        have WX := Lib.hid (WX.out _ B1.out)
        have RX := Lib.hid (RX.out.below B1.out RX.out.lt)
        have HNX := Lib.hid ((HNX.out.less (P' := (Pm P [w.heap.size, R2])) (fun b _ h => h.1)).below B1.out (Nat.le_refl _))
        have MX := Lib.hid (MX.out.after B1.out)
        clear B1 HF1 LX HOX IY YX HF2 x1 HM2 HM4
        go_upto_region 19 with (first
          | (go_at_call 56; refine WX.out.mono ?_; rintro e w2 ⟨ka2, kc2, ta2, tc2, oa2, oc2, rfl, k2, s2, b2⟩; have B2 := Lib.hid b2; have K2 := Lib.hid k2; have S2 := Lib.hid s2; clear b2 k2 s2))
        refine gen_world (fun Z => Below w1.heap.size w1 Z ∧ Lies Z w2.heap.size (rdO z.h (.slice ka2 (len z.k) kc2) (.slice ta2 z.s.toks.length tc2) z.s.at_ (.slice oa2 z.s.opn.length oc2) z.s.wait z.e) ∧ KOn Z (Px (Pm P [w.heap.size, R2]) v3) (.slice ka2 (len z.k) kc2) z.k ∧ StOn Z (Px (Pm P [w.heap.size, R2]) v3) (.slice ta2 z.s.toks.length tc2) (.slice oa2 z.s.opn.length oc2) z.s ∧ w1.heap.size ≤ w2.heap.size) ⟨afterL B2.out (below_one w2 _), Lies.new w2 _, K2.out.below (below_one w2 _) (Nat.le_refl _), S2.out.below (below_one w2 _) (Nat.le_refl _), B2.out.size⟩ ?_
        rintro Z ⟨bZ, yZ, kZ, sZ, hM⟩
        have MZ := Lib.hid (MX.out.after bZ)
        have RZ := RX.out.below bZ RX.out.lt
        have NZ := Lib.hid (HNX.out.below bZ (Nat.le_refl _))
        have hM2 : R2 < w2.heap.size := Nat.lt_of_lt_of_le RX.out.lt hM
        have hM3 : ∀ b, (v3 : Value).ownBlock = some b → b < w2.heap.size := fun b e => Nat.lt_of_lt_of_le (HNX.out.lt e).2 hM
        generalize w2.heap.size = M9 at *
        have YZ := Lib.hid yZ
        have KZ := Lib.hid kZ
        have SZ := Lib.hid sZ
        have HM := Lib.hid hM2
        have HM3 := Lib.hid hM3
        clear a0 a1 a2 a3 bZ kZ sZ hM hM2 hM3 B2 K2 S2 WX
        unfold kRd at RZ
        have R2Z := Lib.hid RZ
        by_cases h0 : z.e = 0
        · have HX : Hid (x = ⟨nodeH kind, pushF (foL l9) z, z.s, 0⟩) := by rw [HW.out, if_pos h0]; rfl
          have x1 : (z.e != 0) = false := by rw [bne, beq_iff_eq.2 h0]; rfl
          obtain ⟨c0, c1, c2, c3, c4, c5, c6, c7, c8, c9, c10⟩ := eleven yZ
          clear HW h0 yZ RZ
          go_wp2_with (first
            | (at_builtin; refine append_lit Z rfl _ _ rfl 0 (Pm P [w.heap.size, R2]) v3 l9 [⟨z.h, z.k, .slice ka2 (len z.k) kc2⟩] rfl NZ.out _ _ rfl _ _ rfl rfl (fun x hx => by rw [List.mem_singleton.1 hx]; exact KZ.out) HL.out (Nat.zero_le _) (Pm.of HP.out (by have := R2Z.out.lt; have := nR.out; simp; omega) MZ.out.grown.size) ?_; intro v3 w3 n3 m3; have k3 := n3.on (by have := HL.out; unfold maxLen; rw [List.length_append]; simp; omega); rw [foL_push] at k3; obtain ⟨ka3, kc3, rfl⟩ := k3.len; have K3 := Lib.hid k3; have S3 := Lib.hid (m3.st SZ.out); have r3 := m3.lies R2Z.out (fun e => (NZ.out.own _ e).2 (by simp)); have y3 := m3.lies YZ.out (fun e => by have := HM3.out _ e; omega); have M3 := Lib.hid (MZ.out.trans m3); clear n3 m3 k3; clear c0 c1 c2 c3 c4 c5 c6 c7 c8 c9 c10; obtain ⟨c0, c1, c2, c3, c4, c5, c6, c7, c8, c9, c10⟩ := eleven y3; obtain ⟨f0, f1, f2, f3, f4, f5, f6, f7, f8, f9, f10⟩ := free11 r3; obtain ⟨e0, e1, e2, e3, e4, e5, e6, e7, e8, e9, e10⟩ := eleven r3; dsimp only [zeroN] at e0 e1 e2 e3 e4; have R3 := Lib.hid r3; clear r3 y3))
          refine bodyPost_ret (res_rd Try.results55 rfl (set11_lies R3.out (nodeH kind) (.slice ka3 (len (pushF (foL l9) z)) kc3) (.slice ta2 z.s.toks.length tc2) z.s.at_ (.slice oa2 z.s.opn.length oc2) z.s.wait 0)) rfl ?_
          rw [HX.out]
          exact rdg_done (x := ⟨nodeH kind, pushF (foL l9) z, z.s, 0⟩) M3.out (Nat.le_of_lt nR.out) K3.out (S3.out.less (fun b _ q => q.1)) (fun b hb q => ⟨q.1, fun e => q.2 (by rw [e]; simp)⟩)
        · have HX : Hid (x = z) := by rw [HW.out, if_neg h0]; rfl
          have x1 : (z.e != 0) = true := bne_iff_ne.2 h0
          obtain ⟨c0, c1, c2, c3, c4, c5, c6, c7, c8, c9, c10⟩ := eleven yZ
          obtain ⟨f0, f1, f2, f3, f4, f5, f6, f7, f8, f9, f10⟩ := free11 RZ
          obtain ⟨e0, e1, e2, e3, e4, e5, e6, e7, e8, e9, e10⟩ := eleven RZ
          dsimp only [zeroN] at e0 e1 e2 e3 e4
          clear HW h0 yZ RZ
          go_wp2_with fail
          refine bodyPost_ret (res_rd Try.results55 rfl (set11_lies R2Z.out z.h (.slice ka2 (len z.k) kc2) (.slice ta2 z.s.toks.length tc2) z.s.at_ (.slice oa2 z.s.opn.length oc2) z.s.wait z.e)) rfl ?_
          rw [HX.out]
          exact rdg_done MZ.out (Nat.le_of_lt nR.out) KZ.out SZ.out (fun b hb q => ⟨q.1.1, fun e => q.1.2 (by rw [e]; simp)⟩)
      | true =>
        rw [hi] at IY
        have hx := HX.out
        rw [if_pos (by rw [hi])] at hx
        have IL := Lib.hid (IL hi (by decide))
        have HX := Lib.hid hx
        clear hi hx WX
        generalize takeR y.s = z at *
        go_upto_region 14 with (first
          | (go_at_call 38; refine IY.out.mono ?_; rintro e w1 ⟨rfl, b1⟩; have B1 := Lib.hid b1; have l1 := LX.out.below b1 LX.out.lt; clear a0 a1 a2 a3 b1; obtain ⟨a0, a1, a2, a3⟩ := four_st l1; clear l1))
        go_upto_region 15 with (first
          | (go_at_call 39; refine (TY.out _ B1.out).mono ?_; rintro e w5 ⟨ka5, kc5, ta5, tc5, oa5, oc5, rfl, k5, s5, b5⟩; have B5 := Lib.hid (afterL B1.out b5); have K5 := Lib.hid k5; have S5 := Lib.hid s5; have y5 := YX.out.below B5.out YX.out.lt; clear b5 k5 s5; obtain ⟨c0, c1, c2, c3, c4, c5, c6, c7, c8, c9, c10⟩ := eleven y5; obtain ⟨f0, f1, f2, f3, f4, f5, f6, f7, f8, f9, f10⟩ := free11 y5; have Y5 := Lib.hid y5; clear y5))
        have q2 := fun b (h : (Pm (Pm P [w.heap.size, R2]) [M]) b) => (show b ≠ M from fun e => h.2 (by rw [e]; simp))
        refine gen_world (fun V => NdP V 0 (Pm (Pm P [w.heap.size, R2]) [M]) v3 (l' ++ ([⟨y.h, y.k, .slice ka2 (len y.k) kc2⟩] : List Nv)) ∧ KOn V (Px (Pm (Pm P [w.heap.size, R2]) [M]) v3) (.slice ka5 (len z.k) kc5) z.k ∧ StOn V (Px (Pm (Pm P [w.heap.size, R2]) [M]) v3) (.slice ta5 z.s.toks.length tc5) (.slice oa5 z.s.opn.length oc5) z.s ∧ Lies V w.heap.size (stB (.slice ta2 y.s.toks.length tc2) y.s.at_ (.slice oa2 y.s.opn.length oc2) y.s.wait) ∧ Lies V R2 kRd ∧ Lies V M (rdO z.h (.slice ka5 (len z.k) kc5) (.slice ta5 z.s.toks.length tc5) z.s.at_ (.slice oa5 z.s.opn.length oc5) z.s.wait z.e) ∧ Mv w V (.slice va l.length vc) v3 ∧ Y.heap.size ≤ V.heap.size) ⟨NdP.set11 (HNX.out.below B5.out (Nat.le_refl _)) q2 .., KOn.set11 K5.out (fun b h => q2 b h.1) .., StOn.set11 S5.out (fun b h => q2 b h.1) .., set11_other (LX.out.below B5.out LX.out.lt) (by have := HM4.out; omega) .., set11_other (RX.out.below B5.out RX.out.lt) (by have := HM2.out; omega) .., set11_lies Y5.out .., (MX.out.after B5.out).set11 (Nat.le_of_lt HM4.out) .., Nat.le_trans B5.out.size (Nat.le_of_eq (set11_size ..).symm)⟩ ?_
        rintro V ⟨nV, kV, sV, lV, rV, yV, mV, zV⟩
        clear a0 a1 a2 a3 c0 c1 c2 c3 c4 c5 c6 c7 c8 c9 c10 f0 f1 f2 f3 f4 f5 f6 f7 f8 f9 f10 q2
        obtain ⟨c0, c1, c2, c3, c4, c5, c6, c7, c8, c9, c10⟩ := eleven yV
        have NZ := Lib.hid nV
        have KZ := Lib.hid kV
        have SZ := Lib.hid sV
        have LZ := Lib.hid lV
        have RZ := Lib.hid rV
        have YZ := Lib.hid yV
        have MZ := Lib.hid mV
        have HZ2 := Lib.hid (Nat.le_trans HZ.out zV)
        have HNM := Lib.hid (show v3.ownBlock ≠ some M from fun e => (nV.own _ e).2 (by simp))
        clear nV kV sV lV rV yV mV zV HNX HOX LX RX YX MX TY B1 B5 K5 S5 Y5 IY
        go_wp2_with (first
          | (at_builtin; refine append_lit V rfl _ _ rfl 0 (Pm (Pm P [w.heap.size, R2]) [M]) v3 (l' ++ ([⟨y.h, y.k, .slice ka2 (len y.k) kc2⟩] : List Nv)) [⟨z.h, z.k, .slice ka5 (len z.k) kc5⟩] rfl NZ.out _ _ rfl _ _ rfl rfl (fun x hx => by rw [List.mem_singleton.1 hx]; exact KZ.out) (by have := HKL.out; have := HKK.out; simp; omega) (Nat.zero_le _) (fun b hb => ⟨Pm.of HP.out (by have := RZ.out.lt; have := nR.out; simp; omega) MZ.out.grown.size b hb, by have := YZ.out.lt; simp; omega⟩) ?_; intro v6 w6 n6 m6; have S6 := Lib.hid (m6.st SZ.out); have R6 := Lib.hid (m6.lies RZ.out (fun e => (NZ.out.own _ e).1.2 (by simp))); have l6 := m6.lies LZ.out (fun e => (NZ.out.own _ e).1.2 (by simp)); have y6 := m6.lies YZ.out HNM.out; have M6 := Lib.hid (MZ.out.trans m6); have Z6 := Lib.hid (Nat.le_trans HZ2.out m6.grown.size); have N6 := Lib.hid n6; clear n6 m6; clear c0 c1 c2 c3 c4 c5 c6 c7 c8 c9 c10; obtain ⟨c0, c1, c2, c3, c4, c5, c6, c7, c8, c9, c10⟩ := eleven y6; obtain ⟨a0, a1, a2, a3⟩ := four_st l6; obtain ⟨g0, g1, g2, g3⟩ := four_fr l6; have L6 := Lib.hid l6; clear l6 y6))
        have q4 := fun b (h : (Pm (Pm P [w.heap.size, R2]) [M]) b) => (show b ≠ w.heap.size from fun e => h.1.2 (by rw [e]; simp))
        obtain ⟨va4, vc4, e4⟩ := N6.out.slice
        refine ⟨⟨_, z.s, ta5, oa5, tc5, oc5, f, 5, rfl, (NdP.set4 N6.out q4 _ _ _ _).less (fun b _ h => h.1), (StOn.set4 S6.out (fun b h => q4 b h.1) _ _ _ _).less (fun b _ h => ⟨h.1.1, h.2⟩), set4_lies L6.out _ _ _ _, set4_other R6.out (by have := nR.out; omega) _ _ _ _, M6.out.set4 (Nat.le_refl _) _ _ _ _, Nat.le_trans Z6.out (Nat.le_of_eq (set4_size _ _ _ _).symm), HF2.out, ?_, ?_, ?_⟩, ?_⟩
        · have := HKL.out
          have := IL.out.2.2
          have := HYL2.out
          simp only [List.length_append, List.length_singleton]
          omega
        · have := HLT.out
          have := IL.out.2.2
          have := HYL2.out
          omega
        · rw [foL_push, foL_push]
          exact HX.out
        · rw [e4]
          have := HKL.out
          simp only [lenOf, List.length_append, List.length_singleton]
          omega
    · rw [if_neg h0] at hx
      have x1 : (y.e != 0) = true := bne_iff_ne.2 h0
      have RZ2 := RZ.out
      unfold kRd at RZ2
      obtain ⟨c0, c1, c2, c3, c4, c5, c6, c7, c8, c9, c10⟩ := eleven yZ
      obtain ⟨f0, f1, f2, f3, f4, f5, f6, f7, f8, f9, f10⟩ := free11 RZ2
      obtain ⟨e0, e1, e2, e3, e4, e5, e6, e7, e8, e9, e10⟩ := eleven RZ2
      dsimp only [zeroN] at e0 e1 e2 e3 e4
      have R2Z := Lib.hid RZ2
      have HX : Hid (x = y) := hx.symm
      clear h0 yZ RZ2 hx
      go_wp2_with fail
      refine bodyPost_ret (res_rd Try.results55 rfl (set11_lies R2Z.out y.h (.slice ka2 (len y.k) kc2) (.slice ta2 y.s.toks.length tc2) y.s.at_ (.slice oa2 y.s.opn.length oc2) y.s.wait y.e)) rfl ?_
      rw [HX.out]
      exact rdg_done MZ.out (Nat.le_of_lt nR.out) KZ.out SZ.out (fun b hb q => ⟨q.1.1.1, fun e => q.1.1.2 (by rw [e]; simp)⟩)
end Go.Proofs.Ytmgclgojmckfhaa.Typ
