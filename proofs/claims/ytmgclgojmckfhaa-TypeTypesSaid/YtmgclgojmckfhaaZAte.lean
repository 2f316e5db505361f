/-
  The document's atom: square brackets with nothing between. Conditions: what the document's Next and Type do, and sizes that are borne.
-/
import Derived.Test.YtmgclgojmckfhaaZAta
namespace Go.Proofs.Ytmgclgojmckfhaa.Typ
open Tks Tre Go.RowKit
open Lay (Sx StV Fit9 nextS NextOut tkV9 IntArg)
set_option linter.unusedSimpArgs false
set_option linter.unusedVariables false

set_option maxRecDepth 1000000 in
set_option maxHeartbeats 4000000 in
theorem atom_e {N : Nat} (hN : N ≤ 1099511627776) (hN2 : 12 * N + 20 ≤ 1099511627776) (R : NextOn 59) (T : Sx → Rd) (hTF : ∀ s, Fits N s → Fits N (T s).s) (hTL : ∀ s, Lv s (T s)) (deep deep1 : Int) (hd : IntKind.i64.wrap (deep - 1) = deep1) (CTY : ∀ (P : Nat → Prop) (tv ov : Value) (s : Sx) (W : World), StOn W P tv ov s → Fits N s → (∀ b, W.heap.size ≤ b → P b) → Calls Try.prog 17 #[stV tv s.at_ ov s.wait, .int .i64 deep1] W (RdOut (T s) P W.heap.size W)) (P : Nat → Prop) (tv ov : Value) (s : Sx) (w : World) (hs : StOn w P tv ov s) (hf : Fits N s) (hP : ∀ b, w.heap.size ≤ b → P b) (h0 : (takeR s).e = 0) (h1 : startsB (tk s) = true) (h2 : (tk s).kind = 15 ∧ (tk s).text.data.toList = [91])  (hb : isR (takeR s).s 15 [93] = true) :
    Calls Try.prog 31 #[stV tv s.at_ ov s.wait, .int .i64 deep] w (RdOut (atomR T s) P w.heap.size w) := by
  obtain ⟨ta, tc, oa, oc, rfl, rfl⟩ := hs.len
  have CT := Lib.hid (fun Q W h h2 => take_any hN R Q (.slice ta s.toks.length tc) (.slice oa s.opn.length oc) s W h hf h2)
  unfold RdOut rdV at CT
  have HX0 : Hid (atomR T s = squareR T (oneF (takeR s)) (takeR s).s) := by
    unfold Hid atomR
    rw [if_pos h0, if_pos h1, if_neg (fun q => by rw [h2.2] at q; exact absurd q.2 (by decide)), if_pos h2]
  have CPK := Lib.hid (fun Q W h => peek_any hN R Q (.slice ta s.toks.length tc) (.slice oa s.opn.length oc) s W h hf)
  have CS := Lib.hid (fun W => starts_any (tk s) W)
  rw [h1] at CS
  have CI := Lib.hid (fun Q tv ov s W h hf => is_any hN R Q tv ov s 15 ⟨#[93]⟩ W h hf)
  have CW := Lib.hid (fun Q tv ov s W h hf h2 => want_any hN R Q tv ov s 15 ⟨#[93]⟩ W h hf h2)
  have CY := Lib.hid CTY
  unfold RdOut rdV at CW CY
  unfold stV at CI CW CY
  unfold stV tkV9 at CPK
  unfold tkV9 at CS
  have HTF := Lib.hid hTF
  have HB := Lib.hid hb
  have y3 : ((takeR s).h.form == 15) = true := by
    rw [take_ok h0]
    exact beq_iff_eq.2 h2.1
  have y1 : ((takeR s).h.text.toList == [40]) = false := by
    rw [take_ok h0, Lib.toList_data]
    show ((tk s).text.data.toList == [40]) = false
    rw [h2.2]
    rfl
  have y2 : ((takeR s).h.text.toList == [91]) = true := by
    rw [take_ok h0, Lib.toList_data]
    exact beq_iff_eq.2 h2.2
  have HFM := Lib.hid (And.intro y1 (And.intro y2 y3))
  clear y1 y2 y3
  generalize tk s = t0 at *
  unfold stV at CT
  unfold stV
  have HS := Lib.hid hs
  have HP := Lib.hid hP
  have HF := Lib.hid (fits_take hf)
  have x1 : ((takeR s).e != 0) = false := by rw [bne, beq_iff_eq.2 h0]; rfl
  generalize hXX : atomR T s = x at *
  generalize takeR s = y at *
  clear hs hf hP R h0 h1 h2 hTF hTL CTY hb
  go_enter Try.func31, Try.ntmps31
  go_upto_region 1 with fail
  refine gen_world (fun X => Below w.heap.size w X ∧ Lies X w.heap.size (stB (.slice ta s.toks.length tc) s.at_ (.slice oa s.opn.length oc) s.wait) ∧ Lies X (w.heap.size + 1) kRd) ⟨below_two' w _ _, (two_lie w _ _).1, (two_lie w _ _).2⟩ ?_
  rintro X ⟨bX, lX, rX⟩
  have OX := HS.out.into (l := [w.heap.size, w.heap.size + 1]) bX (by simp)
  have PX := Pm.of (l := [w.heap.size, w.heap.size + 1]) HP.out (by have := rX.lt; simp; omega) bX.size
  have nR : Hid (w.heap.size < w.heap.size + 1) := Nat.lt_succ_self _
  generalize w.heap.size + 1 = R2 at *
  obtain ⟨a0, a1, a2, a3⟩ := four_st lX
  have BX := Lib.hid bX
  have RX := Lib.hid rX
  have LX := Lib.hid lX
  have TX := Lib.hid (CT.out _ X OX PX)
  clear bX lX rX OX PX CT
  go_upto_region 2 with (first
    | (go_at_call 39; refine TX.out.mono ?_; rintro e w2 ⟨ka2, kc2, ta2, tc2, oa2, oc2, rfl, k2, s2, b2⟩; have B2 := Lib.hid b2; have K2 := Lib.hid k2; have S2 := Lib.hid s2; clear b2 k2 s2))
  refine gen_world (fun Z => Below X.heap.size X Z ∧ Lies Z w2.heap.size (rdO y.h (.slice ka2 (len y.k) kc2) (.slice ta2 y.s.toks.length tc2) y.s.at_ (.slice oa2 y.s.opn.length oc2) y.s.wait y.e) ∧ KOn Z (Pm P [w.heap.size, R2, w2.heap.size]) (.slice ka2 (len y.k) kc2) y.k ∧ StOn Z (Pm P [w.heap.size, R2, w2.heap.size]) (.slice ta2 y.s.toks.length tc2) (.slice oa2 y.s.opn.length oc2) y.s ∧ X.heap.size ≤ w2.heap.size) ⟨afterL B2.out (below_one w2 _), Lies.new w2 _, pm_add (KOn.into K2.out (l := [w2.heap.size]) (below_one w2 _) (by simp)), pm_add' (S2.out.into (l := [w2.heap.size]) (below_one w2 _) (by simp)), B2.out.size⟩ ?_
  rintro Z ⟨bZ, yZ, kZ, sZ, hM⟩
  have hM2 : R2 < w2.heap.size := Nat.lt_of_lt_of_le RX.out.lt hM
  have BZ := Lib.hid (afterL BX.out bZ)
  have rZ := RX.out.below bZ RX.out.lt
  have lZ := LX.out.below bZ LX.out.lt
  generalize w2.heap.size = M at *
  have HM2 := Lib.hid hM2
  have oZ := HS.out.into (l := [w.heap.size, R2, M]) BZ.out (by have := nR.out; simp; omega)
  have pZ := Pm.of (l := [w.heap.size, R2, M]) HP.out (by have := lZ.lt; have := rZ.lt; have := yZ.lt; simp; omega) BZ.out.size
  clear a0 a1 a2 a3 bZ B2 K2 S2 TX RX LX BX hM hM2
  obtain ⟨c0, c1, c2, c3, c4, c5, c6, c7, c8, c9, c10⟩ := eleven yZ
  obtain ⟨a0, a1, a2, a3⟩ := four_st lZ
  have CP := Lib.hid (fun W (h : Below Z.heap.size Z W) => CPK.out _ W (oZ.below h (Nat.le_refl _)))
  have LZ := Lib.hid lZ
  have RZ := Lib.hid rZ
  have YZ := Lib.hid yZ
  have KZ := Lib.hid kZ
  have SZ := Lib.hid sZ
  have OZ := Lib.hid oZ
  have PZ := Lib.hid pZ
  have BC := Lib.hid (Below.refl Z.heap.size Z)
  clear lZ rZ yZ kZ sZ oZ pZ
  have y1 := HFM.out.1
  have y2 := HFM.out.2.1
  have y3 := HFM.out.2.2
  have y4 : (y.h.form != 15) = false := by rw [bne, y3]; rfl
  have y5 : (y.h.text.toList != [91]) = false := by rw [bne, y2]; rfl
  clear CPK hXX
  go_upto_region 10 with (first
    | (go_at_call 53; refine (CP.out _ BC.out).mono ?_; rintro e w3 ⟨rfl, b3⟩; have BC := Lib.hid (afterL BC.out b3); clear b3; have l9 := LZ.out.below BC.out LZ.out.lt; have y9 := YZ.out.below BC.out YZ.out.lt; clear a0 a1 a2 a3 c0 c1 c2 c3 c4 c5 c6 c7 c8 c9 c10; obtain ⟨a0, a1, a2, a3⟩ := four_st l9; obtain ⟨c0, c1, c2, c3, c4, c5, c6, c7, c8, c9, c10⟩ := eleven y9; clear l9 y9)
    | (go_at_call 52; refine (CS.out _).mono ?_; rintro e w4 ⟨rfl, b4⟩; have BC := Lib.hid (afterL BC.out b4); clear b4; have l9 := LZ.out.below BC.out LZ.out.lt; have y9 := YZ.out.below BC.out YZ.out.lt; clear a0 a1 a2 a3 c0 c1 c2 c3 c4 c5 c6 c7 c8 c9 c10; obtain ⟨a0, a1, a2, a3⟩ := four_st l9; obtain ⟨c0, c1, c2, c3, c4, c5, c6, c7, c8, c9, c10⟩ := eleven y9; clear l9 y9))
  have n3 : M < w4.heap.size := Nat.lt_of_lt_of_le YZ.out.lt BC.out.size
  go_upto_region 11 with fail
  have kw := KZ.out.below BC.out (Nat.le_refl _)
  obtain ⟨l8, hl8⟩ : ∃ l8 : List Nv, [(⟨y.h, y.k, .slice ka2 (len y.k) kc2⟩ : Nv)] = l8 := ⟨_, rfl⟩
  have E8 : Hid (foL l8 = oneF y) := by rw [← hl8]; rfl
  have HL8 : Hid (l8.length = 1) := by rw [← hl8]; rfl
  refine gen_world (fun V => NdP V 0 (Pm P [w.heap.size, R2, M]) (.slice (some ⟨w4.heap.size, 0, none⟩) 1 1) l8 ∧ StOn V (Px (Pm P [w.heap.size, R2, M]) (.slice (some ⟨w4.heap.size, 0, none⟩) 1 1)) (.slice ta2 y.s.toks.length tc2) (.slice oa2 y.s.opn.length oc2) y.s ∧ Lies V w.heap.size (stB (.slice ta s.toks.length tc) s.at_ (.slice oa s.opn.length oc) s.wait) ∧ Lies V R2 kRd ∧ Lies V M (rdO y.h (.slice ka2 (len y.k) kc2) (.slice ta2 y.s.toks.length tc2) y.s.at_ (.slice oa2 y.s.opn.length oc2) y.s.wait y.e) ∧ Mv w V (.slice none 0 0) (.slice (some ⟨w4.heap.size, 0, none⟩) 1 1)) ⟨hl8 ▸ NdP.lit (w := w4) (B := 0) (P := (Pm P [w.heap.size, R2, M])) [(⟨y.h, y.k, .slice ka2 (len y.k) kc2⟩ : Nv)] (cs := #[.int .i64 y.h.kind, .int .i64 y.h.form, .string y.h.text, .int .i64 y.h.line, .int .i64 y.h.col, .slice ka2 (len y.k) kc2]) rfl (fun x hx => by rw [List.mem_singleton.1 hx]; exact kw) (Nat.zero_le _) (one_len _) (PZ.out _ BC.out.size), (SZ.out.below BC.out (Nat.le_refl _)).lit _ _ _, (LZ.out.below BC.out LZ.out.lt).alloc _, (RZ.out.below BC.out RZ.out.lt).alloc _, (YZ.out.below BC.out YZ.out.lt).alloc _, Mv.lit (afterL BZ.out BC.out) _ _ _⟩ ?_
  rintro V ⟨nV, sV, lV, rV, yV, mV⟩
  clear a0 a1 a2 a3 c0 c1 c2 c3 c4 c5 c6 c7 c8 c9 c10 y1 y2 y3 y4 y5 HFM LZ RZ YZ KZ SZ OZ PZ kw n3 CS CP hl8
  generalize ((.slice (some ⟨w4.heap.size, 0, none⟩) 1 1) : Value) = v1 at *
  try generalize (Value.agg #[.int .i64 y.h.kind, .int .i64 y.h.form, .string y.h.text, .int .i64 y.h.line, .int .i64 y.h.col, .slice ka2 (len y.k) kc2, .slice ta2 y.s.toks.length tc2, .int .i64 y.s.at_, .slice oa2 y.s.opn.length oc2, .int .i64 y.s.wait, .int .i64 y.e] : Value) = og4
  try generalize (Value.agg #[.int .i64 y.h.kind, .int .i64 y.h.form, .string y.h.text, .int .i64 y.h.line, .int .i64 y.h.col, .slice ka2 (len y.k) kc2] : Value) = og5
  try generalize (Value.agg #[.slice ta s.toks.length tc, .int .i64 s.at_, .slice oa s.opn.length oc, .int .i64 s.wait] : Value) = og6
  try generalize (Value.agg #[.int .i64 t0.kind, .string t0.text, .int .i64 t0.line, .int .i64 t0.col] : Value) = og7
  obtain ⟨a0, a1, a2, a3⟩ := four_st lV
  obtain ⟨g0, g1, g2, g3⟩ := four_fr lV
  obtain ⟨c0, c1, c2, c3, c4, c5, c6, c7, c8, c9, c10⟩ := eleven yV
  go_upto_region 13 with fail
  refine gen_world (fun X => NdP X 0 (Pm P [w.heap.size, R2, M]) v1 l8 ∧ StOn X (Px (Pm P [w.heap.size, R2, M]) v1) (.slice ta2 y.s.toks.length tc2) (.slice oa2 y.s.opn.length oc2) y.s ∧ Lies X w.heap.size (stB (.slice ta2 y.s.toks.length tc2) y.s.at_ (.slice oa2 y.s.opn.length oc2) y.s.wait) ∧ Lies X R2 kRd ∧ Lies X M (rdO y.h (.slice ka2 (len y.k) kc2) (.slice ta2 y.s.toks.length tc2) y.s.at_ (.slice oa2 y.s.opn.length oc2) y.s.wait y.e) ∧ Mv w X (.slice none 0 0) v1) ⟨NdP.set4 nV (fun b h e => h.2 (by rw [e]; simp)) _ _ _ _, StOn.set4 sV (fun b h e => h.1.2 (by rw [e]; simp)) _ _ _ _, set4_lies lV _ _ _ _, set4_other rV (by have := nR.out; omega) _ _ _ _, set4_other yV (by have := HM2.out; have := nR.out; omega) _ _ _ _, mV.set4 (Nat.le_refl _) _ _ _ _⟩ ?_
  clear a0 a1 a2 a3 c0 c1 c2 c3 c4 c5 c6 c7 c8 c9 c10 g0 g1 g2 g3 nV sV lV rV yV mV
  rintro X ⟨nX, sX, lX, rX, yX, mX⟩
  try generalize (Value.agg #[.slice ta2 y.s.toks.length tc2, .int .i64 y.s.at_, .slice oa2 y.s.opn.length oc2, .int .i64 y.s.wait] : Value) = og8
  obtain ⟨a0, a1, a2, a3⟩ := four_st lX
  obtain ⟨g0, g1, g2, g3⟩ := four_fr lX
  obtain ⟨c0, c1, c2, c3, c4, c5, c6, c7, c8, c9, c10⟩ := eleven yX
  have hX0 : ∀ b, X.heap.size ≤ b → (Pm P [w.heap.size, R2, M]) b := Pm.of HP.out (by have := rX.lt; have := yX.lt; have := nR.out; simp; omega) mX.grown.size
  have hX1 : ∀ b, X.heap.size ≤ b → Px (Pm P [w.heap.size, R2, M]) v1 b := fun b hb => ⟨hX0 b hb, fun e => by have := (nX.lt e).2; omega⟩
  have IX := Lib.hid (CI.out (Px (Pm P [w.heap.size, R2, M]) v1) _ _ y.s X sX HF.out)
  change Hid (Calls _ _ _ _ (fun e w' => e = .returned (.bool (isR y.s 15 [93])) ∧ _)) at IX
  have WX := Lib.hid (fun W (h : Below X.heap.size X W) => CW.out (Px (Pm P [w.heap.size, R2, M]) v1) _ _ y.s W (sX.below h (Nat.le_refl _)) HF.out (fun b hb => hX1 b (Nat.le_trans h.size hb)))
  have YY := Lib.hid (fun W (h : Below X.heap.size X W) => CY.out (Px (Pm P [w.heap.size, R2, M]) v1) _ _ y.s W (sX.below h (Nat.le_refl _)) HF.out (fun b hb => hX1 b (Nat.le_trans h.size hb)))
  have HNX := Lib.hid nX
  have HOX := Lib.hid sX
  have LX := Lib.hid lX
  have RX := Lib.hid rX
  have YX := Lib.hid yX
  have MX := Lib.hid mX
  clear nX sX lX rX yX mX hX0 hX1 BZ BC
  cases hi : isR y.s 15 [93] with
  | true =>
    rw [hi] at IX
    have hx0 := HX0.out
    unfold squareR at hx0
    rw [if_pos hi, ← E8.out, closeR_eq] at hx0
    have HW := Lib.hid hx0
    have HL : Hid (l8.length + 1 ≤ 1099511627776) := by have := HL8.out; unfold Hid; omega
    clear hx0
    generalize wantR y.s 15 [93] = z at *
    clear hi YY HX0 CI CW CY HTF
    go_upto_region 20 with (first
      | (go_at_call 38; refine IX.out.mono ?_; rintro e w5 ⟨rfl, b5⟩; have B5 := Lib.hid b5; have l5 := LX.out.below b5 LX.out.lt; have y5' := YX.out.below b5 YX.out.lt; clear a0 a1 a2 a3 c0 c1 c2 c3 c4 c5 c6 c7 c8 c9 c10 b5; obtain ⟨a0, a1, a2, a3⟩ := four_st l5; obtain ⟨c0, c1, c2, c3, c4, c5, c6, c7, c8, c9, c10⟩ := eleven y5'; clear l5 y5'))
    have WX := Lib.hid (WX.out _ B5.out)
    have RX := Lib.hid (RX.out.below B5.out RX.out.lt)
    have YX := Lib.hid (YX.out.below B5.out YX.out.lt)
    have HNX := Lib.hid (HNX.out.below B5.out (Nat.le_refl _))
    have MX := Lib.hid (MX.out.after B5.out)
    clear B5 HOX IX g0 g1 g2 g3
    go_upto_region 21 with (first
      | (go_at_call 56; refine WX.out.mono ?_; rintro e w6 ⟨ka6, kc6, ta6, tc6, oa6, oc6, rfl, k6, s6, b6⟩; have B6 := Lib.hid b6; have K6 := Lib.hid k6; have S6 := Lib.hid s6; have y6 := YX.out.below B6.out YX.out.lt; clear b6 k6 s6; clear c0 c1 c2 c3 c4 c5 c6 c7 c8 c9 c10; obtain ⟨c0, c1, c2, c3, c4, c5, c6, c7, c8, c9, c10⟩ := eleven y6; obtain ⟨f0, f1, f2, f3, f4, f5, f6, f7, f8, f9, f10⟩ := free11 y6; have Y6 := Lib.hid y6; clear y6))
    refine gen_world (fun U => NdP U 0 (Pm P [w.heap.size, R2, M]) v1 l8 ∧ KOn U (Px (Pm P [w.heap.size, R2, M]) v1) (.slice ka6 (len z.k) kc6) z.k ∧ StOn U (Px (Pm P [w.heap.size, R2, M]) v1) (.slice ta6 z.s.toks.length tc6) (.slice oa6 z.s.opn.length oc6) z.s ∧ Lies U R2 kRd ∧ Lies U M (rdO z.h (.slice ka6 (len z.k) kc6) (.slice ta6 z.s.toks.length tc6) z.s.at_ (.slice oa6 z.s.opn.length oc6) z.s.wait z.e) ∧ Mv w U (.slice none 0 0) v1) ⟨NdP.set11 (HNX.out.below B6.out (Nat.le_refl _)) (fun b h e => h.2 (by rw [e]; simp)) .., KOn.set11 K6.out (fun b h e => h.1.2 (by rw [e]; simp)) .., StOn.set11 S6.out (fun b h e => h.1.2 (by rw [e]; simp)) .., set11_other (RX.out.below B6.out RX.out.lt) (by have := HM2.out; omega) .., set11_lies Y6.out .., (MX.out.after B6.out).set11 (by have := HM2.out; have := nR.out; omega) ..⟩ ?_
    rintro U ⟨nU, kU, sU, rU, yU, mU⟩
    try generalize (Value.agg #[.int .i64 z.h.kind, .int .i64 z.h.form, .string z.h.text, .int .i64 z.h.line, .int .i64 z.h.col, .slice ka6 (len z.k) kc6, .slice ta6 z.s.toks.length tc6, .int .i64 z.s.at_, .slice oa6 z.s.opn.length oc6, .int .i64 z.s.wait, .int .i64 z.e] : Value) = og9
    try generalize (Value.agg #[.slice ta2 y.s.toks.length tc2, .int .i64 y.s.at_, .slice oa2 y.s.opn.length oc2, .int .i64 y.s.wait] : Value) = og10
    try generalize (Value.agg #[.slice ta6 u.s.toks.length tc6, .int .i64 u.s.at_, .slice oa6 u.s.opn.length oc6, .int .i64 u.s.wait] : Value) = og11
    clear a0 a1 a2 a3 c0 c1 c2 c3 c4 c5 c6 c7 c8 c9 c10 f0 f1 f2 f3 f4 f5 f6 f7 f8 f9 f10 B6 K6 S6 Y6 WX HNX RX YX MX LX
    obtain ⟨c0, c1, c2, c3, c4, c5, c6, c7, c8, c9, c10⟩ := eleven yU
    have NU := Lib.hid nU
    have KU := Lib.hid kU
    have SU := Lib.hid sU
    have YU := Lib.hid yU
    have MU := Lib.hid mU
    have RU := Lib.hid rU
    have HNM := Lib.hid (show (v1 : Value).ownBlock ≠ some M from fun e => (nU.own _ e).2 (by simp))
    have HNR := Lib.hid (show (v1 : Value).ownBlock ≠ some R2 from fun e => (nU.own _ e).2 (by simp))
    have HQU : Hid (∀ b, U.heap.size ≤ b → (Pm P [w.heap.size, R2, M]) b) := Pm.of HP.out (by have := rU.lt; have := yU.lt; have := nR.out; simp; omega) mU.grown.size
    clear nU kU sU yU mU
    by_cases z0 : z.e = 0
    · have HX : Hid (x = ⟨nodeH 3, pushF (foL l8) z, z.s, 0⟩) := by rw [HW.out, if_pos z0]; rfl
      have x1 : (z.e != 0) = false := by rw [bne, beq_iff_eq.2 z0]; rfl
      clear HW z0 rU
      go_wp2_with (first
        | (at_builtin; refine append_lit U rfl _ _ rfl 0 (Pm P [w.heap.size, R2, M]) v1 l8 [⟨z.h, z.k, .slice ka6 (len z.k) kc6⟩] rfl NU.out _ _ rfl _ _ rfl rfl (fun x hx => by rw [List.mem_singleton.1 hx]; exact KU.out) HL.out (Nat.zero_le _) HQU.out ?_; intro v7 w7 n7 m7; have k7 := n7.on (by have := HL.out; unfold maxLen; rw [List.length_append]; simp; omega); rw [foL_push] at k7; obtain ⟨ka7, kc7, rfl⟩ := k7.len; have K7 := Lib.hid k7; have S7 := Lib.hid (m7.st SU.out); have r7 := m7.lies RU.out HNR.out; have y7 := m7.lies YU.out HNM.out; have M7 := Lib.hid (MU.out.trans m7); clear n7 m7 k7; clear c0 c1 c2 c3 c4 c5 c6 c7 c8 c9 c10; obtain ⟨c0, c1, c2, c3, c4, c5, c6, c7, c8, c9, c10⟩ := eleven y7; unfold kRd at r7; obtain ⟨f0, f1, f2, f3, f4, f5, f6, f7, f8, f9, f10⟩ := free11 r7; obtain ⟨e0, e1, e2, e3, e4, e5, e6, e7, e8, e9, e10⟩ := eleven r7; dsimp only [zeroN] at e0 e1 e2 e3 e4; have R7 := Lib.hid r7; clear r7 y7))
      refine bodyPost_ret (res_rd Try.results31 rfl (set11_lies R7.out (nodeH 3) (.slice ka7 (len (pushF (foL l8) z)) kc7) (.slice ta6 z.s.toks.length tc6) z.s.at_ (.slice oa6 z.s.opn.length oc6) z.s.wait 0)) rfl ?_
      rw [HX.out]
      exact rd_done (x := ⟨nodeH 3, pushF (foL l8) z, z.s, 0⟩) M7.out.bel (Nat.le_of_lt nR.out) K7.out (S7.out.less (fun b _ q => q.1)) (fun b hb q => ⟨q.1, fun e => q.2 (by rw [e]; simp)⟩)
    · have HX : Hid (x = z) := by rw [HW.out, if_neg z0]; rfl
      have x1 : (z.e != 0) = true := bne_iff_ne.2 z0
      unfold kRd at rU
      obtain ⟨f0, f1, f2, f3, f4, f5, f6, f7, f8, f9, f10⟩ := free11 rU
      obtain ⟨e0, e1, e2, e3, e4, e5, e6, e7, e8, e9, e10⟩ := eleven rU
      dsimp only [zeroN] at e0 e1 e2 e3 e4
      have R7 := Lib.hid rU
      clear HW z0 rU
      go_wp2_with fail
      refine bodyPost_ret (res_rd Try.results31 rfl (set11_lies R7.out z.h (.slice ka6 (len z.k) kc6) (.slice ta6 z.s.toks.length tc6) z.s.at_ (.slice oa6 z.s.opn.length oc6) z.s.wait z.e)) rfl ?_
      rw [HX.out]
      exact rd_done MU.out.bel (Nat.le_of_lt nR.out) KU.out SU.out (fun b hb q => ⟨q.1.1, fun e => q.1.2 (by rw [e]; simp)⟩)
  | false =>
    rw [HB.out] at hi
    cases hi
end Go.Proofs.Ytmgclgojmckfhaa.Typ
