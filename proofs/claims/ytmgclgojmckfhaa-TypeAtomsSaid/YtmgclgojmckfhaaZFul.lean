/-
  The document's Full over states. Conditions: what the document's Next does, and sizes that are borne.
-/
import Derived.Test.YtmgclgojmckfhaaZTop
namespace Go.Proofs.Ytmgclgojmckfhaa.Typ
open Tks Tre Go.RowKit
open Lay (Sx StV Fit9 nextS NextOut tkV9 IntArg)
set_option linter.unusedSimpArgs false
set_option linter.unusedVariables false

/-- What Full answers, over what a row is. -/
def fullG (A : Sx → Rd) (s : Sx) : Rd :=
  if (A s).e = 0 ∧ isR (A s).s 10 [61, 62] = true then cleanR ⟨nodeH 38, pushF (pushF (oneF (A s)) (takeR (A s).s)) (arrowsR A (A (takeR (A s).s).s)), (arrowsR A (A (takeR (A s).s).s)).s, (arrowsR A (A (takeR (A s).s).s)).e⟩
  else cleanR (arrowsR A (A s))
theorem fullR_eq (T : Sx → Rd) (s : Sx) : fullR T s = fullG (rowR (atomR T)) s := rfl
set_option maxRecDepth 1000000 in
set_option maxHeartbeats 2000000 in
theorem fullC_any {N : Nat} (hN : N ≤ 1099511627776) (R : NextOn 59) (A : Sx → Rd) (hAF : ∀ s, Fits N s → Fits N (A s).s) (hLF : ∀ s, Fits N s → (A s).e = 0 → lf (A s).s ≤ 6 * N + 2) (hRF : ∀ y : Rd, Fits N y.s → Fits N (arrowsR A y).s) (deep : Int) (CA : ∀ (P : Nat → Prop) (tv ov : Value) (s : Sx) (W : World), StOn W P tv ov s → Fits N s → (∀ b, W.heap.size ≤ b → P b) → Calls Try.prog 34 #[stV tv s.at_ ov s.wait, .int .i64 ((lim deep : Nat) : Int)] W (RdOut (A s) P W.heap.size W)) (CR : ∀ (P : Nat → Prop) (y : Rd) (kv tv ov : Value) (w : World), KOn w P kv y.k → StOn w P tv ov y.s → Fits N y.s → (∀ b, w.heap.size ≤ b → P b) → (y.e = 0 → lf y.s ≤ 6 * N + 2) → Calls Try.prog 36 #[rdV y.h kv tv y.s.at_ ov y.s.wait y.e, .int .i64 ((lim deep : Nat) : Int)] w (RdOut (arrowsR A y) P w.heap.size w)) (P : Nat → Prop) (tv ov : Value) (s : Sx) (w : World) (hs : StOn w P tv ov s) (hf : Fits N s) (hP : ∀ b, w.heap.size ≤ b → P b) :
    Calls Try.prog 19 #[stV tv s.at_ ov s.wait, .int .i64 deep] w (RdOut (if deep < 1 then errR s 2 else fullG A s) P w.heap.size w) := by
  obtain ⟨ta, tc, oa, oc, rfl, rfl⟩ := hs.len
  have CD := Lib.hid (fun Q W h => deepr_any Q (.slice ta s.toks.length tc) (.slice oa s.opn.length oc) s W h)
  have CL := Lib.hid (fun h W => limit_any deep h W)
  have CY := Lib.hid (fun Q W h h2 => CA Q (.slice ta s.toks.length tc) (.slice oa s.opn.length oc) s W h hf h2)
  have CY2 := Lib.hid (fun s hf Q tv ov W h h2 => CA Q tv ov s W h hf h2)
  have CC := Lib.hid (fun Q y kv tv ov W h1 h2 => clean_any Q y kv tv ov W h1 h2)
  have CRR := Lib.hid (fun y h d Q kv tv ov W a b c => CR Q y kv tv ov W a b h c d)
  have CI := Lib.hid (fun Q tv ov s W h hf => is_any hN R Q tv ov s 10 ⟨#[61, 62]⟩ W h hf)
  have CT := Lib.hid (fun Q tv ov s W h hf h2 => take_any hN R Q tv ov s W h hf h2)
  unfold RdOut rdV at CD CY CY2 CC CRR CT
  unfold stV at CD CY CY2 CI CT
  unfold stV
  have HAF := Lib.hid hAF
  have HLF := Lib.hid hLF
  have HF := Lib.hid (hAF _ hf)
  have HLS := Lib.hid (hLF _ hf)
  have HS := Lib.hid hs
  have HP := Lib.hid hP
  obtain ⟨x, hx⟩ : ∃ x, (if deep < 1 then errR s 2 else fullG A s) = x := ⟨_, rfl⟩
  have HX := Lib.hid hx
  rw [hx]
  unfold fullG at HX
  generalize A s = y at *
  clear hs hf hP CA hx CR hAF hLF hRF R
  go_enter Try.func19, Try.ntmps19
  go_upto_region 1 with fail
  refine gen_world (fun X => Below w.heap.size w X ∧ Lies X w.heap.size (stB (.slice ta s.toks.length tc) s.at_ (.slice oa s.opn.length oc) s.wait) ∧ Lies X (w.heap.size + 1) kRd) ⟨below_two' w _ _, (two_lie w _ _).1, (two_lie w _ _).2⟩ ?_
  rintro X ⟨bX, lX, rX⟩
  have nR : Hid (w.heap.size < w.heap.size + 1) := Nat.lt_succ_self _
  generalize w.heap.size + 1 = R2 at *
  have OX := HS.out.into (l := [w.heap.size, R2]) bX (by have := nR.out; simp; omega)
  have PX := Pm.of (l := [w.heap.size, R2]) HP.out (by have := lX.lt; have := rX.lt; simp; omega) bX.size
  obtain ⟨a0, a1, a2, a3⟩ := four_st lX
  have BX := Lib.hid bX
  have LX := Lib.hid lX
  have RX := Lib.hid rX
  by_cases h0 : deep < 1
  · have hx := HX.out
    rw [if_pos h0] at hx
    have HX := Lib.hid hx
    have d0 : decide (deep < 1) = true := decide_eq_true h0
    have DX := Lib.hid (CD.out _ X OX)
    clear hx h0 bX lX rX OX PX CL CY CY2 CC CRR CI CT HAF HLF HLS
    go_wp2_with (first
      | (go_at_call 29; refine DX.out.mono ?_; rintro e w2 ⟨ka2, kc2, ta2, tc2, oa2, oc2, rfl, k2, s2, b2⟩; have B2 := Lib.hid b2; have K2 := Lib.hid k2; have S2 := Lib.hid s2; have r9 := RX.out.below b2 RX.out.lt; clear b2 k2 s2; unfold kRd at r9; obtain ⟨f0, f1, f2, f3, f4, f5, f6, f7, f8, f9, f10⟩ := free11 r9; obtain ⟨e0, e1, e2, e3, e4, e5, e6, e7, e8, e9, e10⟩ := eleven r9; dsimp only [zeroN] at e0 e1 e2 e3 e4; have R9 := Lib.hid r9; clear r9))
    refine bodyPost_ret (res_rd Try.results19 rfl (set11_lies R9.out (errR s 2).h (.slice ka2 (len (errR s 2).k) kc2) (.slice ta2 (errR s 2).s.toks.length tc2) (errR s 2).s.at_ (.slice oa2 (errR s 2).s.opn.length oc2) (errR s 2).s.wait (errR s 2).e)) rfl ?_
    rw [← HX.out]
    exact rd_done (afterL BX.out B2.out) (Nat.le_of_lt nR.out) K2.out S2.out (fun b hb q => ⟨q.1, fun e => q.2 (by rw [e]; simp)⟩)
  · have hx := HX.out
    rw [if_neg h0] at hx
    have HX := Lib.hid hx
    have d0 : decide (deep < 1) = false := decide_eq_false h0
    have LW := Lib.hid (CL.out (by omega))
    have YW := Lib.hid (fun W (h : Below X.heap.size X W) => CY.out _ W (OX.below h (Nat.le_refl _)) (fun b hb => PX b (Nat.le_trans h.size hb)))
    generalize ((lim deep : Nat) : Int) = dd at *
    clear hx h0 bX lX rX OX PX CD CY CL
    go_upto_region 4 with (first
      | (go_at_call 32; refine (LW.out _).mono ?_; rintro e w3 ⟨rfl, b3⟩; have B3 := Lib.hid b3; have l3 := LX.out.below b3 LX.out.lt; clear b3 a0 a1 a2 a3; obtain ⟨a0, a1, a2, a3⟩ := four_st l3; clear l3))
    go_upto_region 5 with (first
      | (go_at_call 34; refine (YW.out _ B3.out).mono ?_; rintro e w2 ⟨ka2, kc2, ta2, tc2, oa2, oc2, rfl, k2, s2, b2⟩; have B2 := Lib.hid (afterL B3.out b2); have K2 := Lib.hid k2; have S2 := Lib.hid s2; clear b2 k2 s2))
    refine gen_world (fun Z => Below X.heap.size X Z ∧ Lies Z w2.heap.size (rdO y.h (.slice ka2 (len y.k) kc2) (.slice ta2 y.s.toks.length tc2) y.s.at_ (.slice oa2 y.s.opn.length oc2) y.s.wait y.e) ∧ KOn Z (Pm P [w.heap.size, R2, w2.heap.size]) (.slice ka2 (len y.k) kc2) y.k ∧ StOn Z (Pm P [w.heap.size, R2, w2.heap.size]) (.slice ta2 y.s.toks.length tc2) (.slice oa2 y.s.opn.length oc2) y.s ∧ X.heap.size ≤ w2.heap.size) ⟨afterL B2.out (below_one w2 _), Lies.new w2 _, pm_add (KOn.into K2.out (l := [w2.heap.size]) (below_one w2 _) (by simp)), pm_add' (S2.out.into (l := [w2.heap.size]) (below_one w2 _) (by simp)), B2.out.size⟩ ?_
    rintro Z ⟨bZ, yZ, kZ, sZ, hM⟩
    have hM2 : R2 < w2.heap.size := Nat.lt_of_lt_of_le RX.out.lt hM
    have BZ := Lib.hid (afterL BX.out bZ)
    have RZ := Lib.hid (RX.out.below bZ RX.out.lt)
    generalize w2.heap.size = M at *
    have HM2 := Lib.hid hM2
    have pZ := Pm.of (l := [w.heap.size, R2, M]) HP.out (by have := RZ.out.lt; have := yZ.lt; have := nR.out; simp; omega) BZ.out.size
    clear a0 a1 a2 a3 bZ B2 B3 K2 S2 YW LW RX LX BX hM hM2 HS
    try generalize (Value.agg #[.int .i64 y.h.kind, .int .i64 y.h.form, .string y.h.text, .int .i64 y.h.line, .int .i64 y.h.col, .slice ka2 (len y.k) kc2, .slice ta2 y.s.toks.length tc2, .int .i64 y.s.at_, .slice oa2 y.s.opn.length oc2, .int .i64 y.s.wait, .int .i64 y.e] : Value) = og1
    try generalize (Value.agg #[.slice ta s.toks.length tc, .int .i64 s.at_, .slice oa s.opn.length oc, .int .i64 s.wait] : Value) = og2
    obtain ⟨c0, c1, c2, c3, c4, c5, c6, c7, c8, c9, c10⟩ := eleven yZ
    have IX := Lib.hid (CI.out _ _ _ y.s Z sZ HF.out)
    change Hid (Calls _ _ _ _ (fun e w' => e = .returned (.bool (isR y.s 10 [61, 62])) ∧ _)) at IX
    have AR := Lib.hid (fun W (h : Below Z.heap.size Z W) => CRR.out y HF.out HLS.out (Pm P [w.heap.size, R2, M]) _ _ _ W (kZ.below h (Nat.le_refl _)) (sZ.below h (Nat.le_refl _)) (fun b hb => pZ b (Nat.le_trans h.size hb)))
    have YZ := Lib.hid yZ
    have KZ := Lib.hid kZ
    have SZ := Lib.hid sZ
    have PZ := Lib.hid pZ
    clear yZ kZ sZ pZ
    have BC := Lib.hid (Below.refl Z.heap.size Z)
    by_cases h0 : y.e = 0
    · have x1 : (y.e != 0) = false := by rw [bne, beq_iff_eq.2 h0]; rfl
      cases hi : isR y.s 10 [61, 62] with
      | false =>
        rw [hi] at IX
        have hx := HX.out
        rw [if_neg (fun q => by rw [hi] at q; exact absurd q.2 (by decide))] at hx
        have HCL := Lib.hid hx
        generalize arrowsR A y = z at *
        clear hx hi h0 HX CI CT CY2 CRR HAF HLF HLS
        go_upto_region 6 with (first
          | (go_at_call 38; refine IX.out.mono ?_; rintro e w4 ⟨rfl, b4⟩; have BC := Lib.hid (afterL BC.out b4); have y9 := YZ.out.below b4 YZ.out.lt; clear c0 c1 c2 c3 c4 c5 c6 c7 c8 c9 c10 b4; obtain ⟨c0, c1, c2, c3, c4, c5, c6, c7, c8, c9, c10⟩ := eleven y9; clear y9))
        go_wp2_with (first
          | (go_at_call 36; refine (AR.out _ BC.out).mono ?_; rintro e w7 ⟨ka7, kc7, ta7, tc7, oa7, oc7, rfl, k7, s7, b7⟩; have B7 := Lib.hid (afterL BC.out b7); have c2 := CC.out _ _ _ _ _ w7 k7 s7; rw [HCL.out] at c2; have C2 := Lib.hid c2; clear b7 k7 s7 c2)
          | (go_at_call 30; refine C2.out.mono ?_; rintro e w8 ⟨ka8, kc8, ta8, tc8, oa8, oc8, rfl, k8, s8, b8⟩; have B8 := Lib.hid (afterL B7.out b8); have K8 := Lib.hid k8; have S8 := Lib.hid s8; have r9 := RZ.out.below B8.out RZ.out.lt; clear b8 k8 s8; unfold kRd at r9; obtain ⟨f0, f1, f2, f3, f4, f5, f6, f7, f8, f9, f10⟩ := free11 r9; obtain ⟨e0, e1, e2, e3, e4, e5, e6, e7, e8, e9, e10⟩ := eleven r9; dsimp only [zeroN] at e0 e1 e2 e3 e4; have R9 := Lib.hid r9; clear r9))
        refine bodyPost_ret (res_rd Try.results19 rfl (set11_lies R9.out x.h (.slice ka8 (len x.k) kc8) (.slice ta8 x.s.toks.length tc8) x.s.at_ (.slice oa8 x.s.opn.length oc8) x.s.wait x.e)) rfl ?_
        exact rd_done (afterL BZ.out B8.out) (Nat.le_of_lt nR.out) K8.out S8.out (fun b hb q => ⟨q.1, fun e => q.2 (by rw [e]; simp)⟩)
      | true =>
        rw [hi] at IX
        have hx := HX.out
        rw [if_pos ⟨h0, hi⟩] at hx
        have IL := Lib.hid (@is_less y.s 10 [61, 62] hi (by decide))
        have HF1 := Lib.hid (fits_take HF.out)
        have HCL := Lib.hid hx
        have TW := Lib.hid (fun Q tv ov W h h2 => CT.out Q tv ov y.s W h HF.out h2)
        generalize takeR y.s = p at *
        have RW := Lib.hid (CY2.out p.s HF1.out)
        have HF2 := Lib.hid (HAF.out _ HF1.out)
        have ARW := Lib.hid (CRR.out (A p.s) HF2.out (HLF.out _ HF1.out))
        generalize A p.s = q at *
        generalize arrowsR A q = z at *
        clear hx hi h0 HX CI CT CY2 CRR HAF HLF HLS AR
        go_upto_region 7 with (first
          | (go_at_call 38; refine IX.out.mono ?_; rintro e w5 ⟨rfl, b4⟩; have BC := Lib.hid (afterL BC.out b4); have y9 := YZ.out.below b4 YZ.out.lt; clear c0 c1 c2 c3 c4 c5 c6 c7 c8 c9 c10 b4; obtain ⟨c0, c1, c2, c3, c4, c5, c6, c7, c8, c9, c10⟩ := eleven y9; clear y9))
        go_upto_region 8 with fail
        obtain ⟨l8, hl8⟩ : ∃ l8 : List Nv, [(⟨y.h, y.k, .slice ka2 (len y.k) kc2⟩ : Nv)] = l8 := ⟨_, rfl⟩
        have E8 : Hid (foL l8 = oneF y) := by rw [← hl8]; rfl
        have HL8 : Hid (l8.length = 1) := by rw [← hl8]; rfl
        have qB := KZ.out.below BC.out (Nat.le_refl _)
        have oB := SZ.out.below BC.out (Nat.le_refl _)
        refine gen_world (fun V => NdP V 0 (Pm P [w.heap.size, R2, M]) (.slice (some ⟨w5.heap.size, 0, none⟩) 1 1) l8 ∧ StOn V (Px (Pm P [w.heap.size, R2, M]) (.slice (some ⟨w5.heap.size, 0, none⟩) 1 1)) (.slice ta2 y.s.toks.length tc2) (.slice oa2 y.s.opn.length oc2) y.s ∧ Lies V R2 kRd ∧ Lies V M (rdO y.h (.slice ka2 (len y.k) kc2) (.slice ta2 y.s.toks.length tc2) y.s.at_ (.slice oa2 y.s.opn.length oc2) y.s.wait y.e) ∧ Mv w V (.slice none 0 0) (.slice (some ⟨w5.heap.size, 0, none⟩) 1 1)) ⟨hl8 ▸ NdP.lit (w := w5) (B := 0) (P := (Pm P [w.heap.size, R2, M])) [(⟨y.h, y.k, .slice ka2 (len y.k) kc2⟩ : Nv)] (cs := #[.int .i64 y.h.kind, .int .i64 y.h.form, .string y.h.text, .int .i64 y.h.line, .int .i64 y.h.col, .slice ka2 (len y.k) kc2]) rfl (fun x hx => by rw [List.mem_singleton.1 hx]; exact qB) (Nat.zero_le _) (one_len _) (PZ.out _ BC.out.size), oB.lit _ _ _, (RZ.out.below BC.out RZ.out.lt).alloc _, (YZ.out.below BC.out YZ.out.lt).alloc _, mv_lit (afterL BZ.out BC.out) _ _ _⟩ ?_
        rintro V ⟨nV, sV, rV, yV, mV⟩
        clear c0 c1 c2 c3 c4 c5 c6 c7 c8 c9 c10 RZ YZ KZ SZ qB oB hl8 PZ IX BC BZ
        try generalize (Value.agg #[.int .i64 y.h.kind, .int .i64 y.h.form, .string y.h.text, .int .i64 y.h.line, .int .i64 y.h.col, .slice ka2 (len y.k) kc2] : Value) = og3
        try generalize (Value.agg #[.slice ta2 y.s.toks.length tc2, .int .i64 y.s.at_, .slice oa2 y.s.opn.length oc2, .int .i64 y.s.wait] : Value) = og4
        generalize ((.slice (some ⟨w5.heap.size, 0, none⟩) 1 1) : Value) = v1 at *
        obtain ⟨c0, c1, c2, c3, c4, c5, c6, c7, c8, c9, c10⟩ := eleven yV
        have hX0 : ∀ b, V.heap.size ≤ b → (Pm P [w.heap.size, R2, M]) b := Pm.of HP.out (by have := rV.lt; have := yV.lt; have := nR.out; simp; omega) mV.grown.size
        have TV := Lib.hid (TW.out (Px (Pm P [w.heap.size, R2, M]) v1) _ _ V sV (fun b hb => ⟨hX0 b hb, fun e => by have := (nV.lt e).2; omega⟩))
        have NW := Lib.hid nV
        have RWW := Lib.hid rV
        have YW := Lib.hid yV
        have MW := Lib.hid mV
        clear nV sV rV yV mV hX0 TW
        go_upto_region 9 with (first
          | (go_at_call 39; refine TV.out.mono ?_; rintro e w6 ⟨ka6, kc6, ta6, tc6, oa6, oc6, rfl, k6, s6, b6⟩; have B6 := Lib.hid b6; have K6 := Lib.hid k6; have S6 := Lib.hid s6; have y6 := YW.out.below b6 YW.out.lt; clear b6 k6 s6; clear c0 c1 c2 c3 c4 c5 c6 c7 c8 c9 c10; obtain ⟨c0, c1, c2, c3, c4, c5, c6, c7, c8, c9, c10⟩ := eleven y6; obtain ⟨f0, f1, f2, f3, f4, f5, f6, f7, f8, f9, f10⟩ := free11 y6; have Y6 := Lib.hid y6; clear y6))
        refine gen_world (fun U => NdP U 0 (Pm P [w.heap.size, R2, M]) v1 l8 ∧ KOn U (Px (Pm P [w.heap.size, R2, M]) v1) (.slice ka6 (len p.k) kc6) p.k ∧ StOn U (Px (Pm P [w.heap.size, R2, M]) v1) (.slice ta6 p.s.toks.length tc6) (.slice oa6 p.s.opn.length oc6) p.s ∧ Lies U R2 kRd ∧ Lies U M (rdO p.h (.slice ka6 (len p.k) kc6) (.slice ta6 p.s.toks.length tc6) p.s.at_ (.slice oa6 p.s.opn.length oc6) p.s.wait p.e) ∧ Mv w U (.slice none 0 0) v1) ⟨NdP.set11 (NW.out.below B6.out (Nat.le_refl _)) (fun b h e => h.2 (by rw [e]; simp)) .., KOn.set11 K6.out (fun b h e => h.1.2 (by rw [e]; simp)) .., StOn.set11 S6.out (fun b h e => h.1.2 (by rw [e]; simp)) .., set11_other (RWW.out.below B6.out RWW.out.lt) (by have := HM2.out; omega) .., set11_lies Y6.out .., (MW.out.after B6.out).set11 (by have := HM2.out; have := nR.out; omega) ..⟩ ?_
        rintro U ⟨nU, kU, sU, rU, yU, mU⟩
        clear c0 c1 c2 c3 c4 c5 c6 c7 c8 c9 c10 f0 f1 f2 f3 f4 f5 f6 f7 f8 f9 f10 B6 K6 S6 Y6 TV NW RWW YW MW
        try generalize (Value.agg #[.int .i64 p.h.kind, .int .i64 p.h.form, .string p.h.text, .int .i64 p.h.line, .int .i64 p.h.col, .slice ka6 (len p.k) kc6, .slice ta6 p.s.toks.length tc6, .int .i64 p.s.at_, .slice oa6 p.s.opn.length oc6, .int .i64 p.s.wait, .int .i64 p.e] : Value) = og5
        obtain ⟨c0, c1, c2, c3, c4, c5, c6, c7, c8, c9, c10⟩ := eleven yU
        have NU := Lib.hid nU
        have KU := Lib.hid kU
        have SU := Lib.hid sU
        have YU := Lib.hid yU
        have MU := Lib.hid mU
        have RU := Lib.hid rU
        have HNM := Lib.hid (show v1.ownBlock ≠ some M from fun e => (nU.own _ e).2 (by simp))
        have HNR := Lib.hid (show v1.ownBlock ≠ some R2 from fun e => (nU.own _ e).2 (by simp))
        have HQU : Hid (∀ b, U.heap.size ≤ b → (Pm P [w.heap.size, R2, M]) b) := Pm.of HP.out (by have := rU.lt; have := yU.lt; have := nR.out; simp; omega) mU.grown.size
        clear nU kU sU yU mU rU
        go_upto_region 10 with (first
          | (at_builtin; refine append_lit U rfl _ _ rfl 0 (Pm P [w.heap.size, R2, M]) v1 l8 [⟨p.h, p.k, .slice ka6 (len p.k) kc6⟩] rfl NU.out _ _ rfl _ _ rfl rfl (fun x hx => by rw [List.mem_singleton.1 hx]; exact KU.out) (by have := HL8.out; simp; omega) (Nat.zero_le _) HQU.out ?_; intro v7 w7 n7 m7; have s7 := m7.st SU.out; have r7 := m7.lies RU.out HNR.out; have y7 := m7.lies YU.out HNM.out; have M7 := Lib.hid (MU.out.trans m7); have hx7 : ∀ b, w7.heap.size ≤ b → Px (Pm P [w.heap.size, R2, M]) v7 b := Pxm.of HP.out (by have := r7.lt; have := y7.lt; have := nR.out; simp; omega) (fun b e => (n7.lt e).2) (MU.out.trans m7).grown.size; have R7W := Lib.hid (RW.out (Px (Pm P [w.heap.size, R2, M]) v7) _ _ w7 s7 hx7); have AR7 := Lib.hid (fun kv tv ov W a b (h : w7.heap.size ≤ W.heap.size) => ARW.out (Px (Pm P [w.heap.size, R2, M]) v7) kv tv ov W a b (fun d hd => hx7 d (Nat.le_trans h hd))); have N7 := Lib.hid n7; have R7 := Lib.hid r7; have YW := Lib.hid y7; clear n7 m7 s7 r7 hx7; clear c0 c1 c2 c3 c4 c5 c6 c7 c8 c9 c10; obtain ⟨c0, c1, c2, c3, c4, c5, c6, c7, c8, c9, c10⟩ := eleven y7; clear y7))
        obtain ⟨l9, hl9⟩ : ∃ l9, l8 ++ [(⟨p.h, p.k, .slice ka6 (len p.k) kc6⟩ : Nv)] = l9 := ⟨_, rfl⟩
        have hf9 : pushF (oneF y) p = foL l9 := by
          rw [← hl9, foL_push, E8.out]
        have HL9 : Hid (l9.length = 2) := by
          unfold Hid
          rw [← hl9, List.length_append, HL8.out]
          rfl
        rw [hl9] at N7
        rw [hf9] at HCL
        clear hl9 hf9 NU KU SU YU MU RU HNM HNR HQU E8 HL8
        try generalize (Value.agg #[.int .i64 p.h.kind, .int .i64 p.h.form, .string p.h.text, .int .i64 p.h.line, .int .i64 p.h.col, .slice ka6 (len p.k) kc6] : Value) = og6
        go_upto_region 11 with (first
          | (go_at_call 34; refine R7W.out.mono ?_; rintro e w8 ⟨ka8, kc8, ta8, tc8, oa8, oc8, rfl, k8, s8, b8⟩; have B8 := Lib.hid b8; have A8 := Lib.hid (AR7.out _ _ _ w8 k8 s8 b8.size); clear b8 k8 s8)
          | (go_at_call 36; refine A8.out.mono ?_; rintro e w9 ⟨ka9, kc9, ta9, tc9, oa9, oc9, rfl, k9, s9, b9⟩; have B9 := Lib.hid (afterL B8.out b9); have K9 := Lib.hid k9; have S9 := Lib.hid s9; have y9 := YW.out.below B9.out YW.out.lt; clear b9 k9 s9; clear c0 c1 c2 c3 c4 c5 c6 c7 c8 c9 c10; obtain ⟨c0, c1, c2, c3, c4, c5, c6, c7, c8, c9, c10⟩ := eleven y9; obtain ⟨f0, f1, f2, f3, f4, f5, f6, f7, f8, f9, f10⟩ := free11 y9; have Y9 := Lib.hid y9; clear y9))
        refine gen_world (fun U => NdP U 0 (Pm P [w.heap.size, R2, M]) v7 l9 ∧ KOn U (Px (Pm P [w.heap.size, R2, M]) v7) (.slice ka9 (len z.k) kc9) z.k ∧ StOn U (Px (Pm P [w.heap.size, R2, M]) v7) (.slice ta9 z.s.toks.length tc9) (.slice oa9 z.s.opn.length oc9) z.s ∧ Lies U R2 kRd ∧ Lies U M (rdO z.h (.slice ka9 (len z.k) kc9) (.slice ta9 z.s.toks.length tc9) z.s.at_ (.slice oa9 z.s.opn.length oc9) z.s.wait z.e) ∧ Mv w U (.slice none 0 0) v7) ⟨NdP.set11 (N7.out.below B9.out (Nat.le_refl _)) (fun b h e => h.2 (by rw [e]; simp)) .., KOn.set11 K9.out (fun b h e => h.1.2 (by rw [e]; simp)) .., StOn.set11 S9.out (fun b h e => h.1.2 (by rw [e]; simp)) .., set11_other (R7.out.below B9.out R7.out.lt) (by have := HM2.out; omega) .., set11_lies Y9.out .., (M7.out.after B9.out).set11 (by have := HM2.out; have := nR.out; omega) ..⟩ ?_
        rintro U2 ⟨nU, kU, sU, rU, yU, mU⟩
        clear c0 c1 c2 c3 c4 c5 c6 c7 c8 c9 c10 f0 f1 f2 f3 f4 f5 f6 f7 f8 f9 f10 B9 B8 K9 S9 Y9 A8 R7W AR7 N7 R7 YW M7
        try generalize (Value.agg #[.int .i64 z.h.kind, .int .i64 z.h.form, .string z.h.text, .int .i64 z.h.line, .int .i64 z.h.col, .slice ka9 (len z.k) kc9, .slice ta9 z.s.toks.length tc9, .int .i64 z.s.at_, .slice oa9 z.s.opn.length oc9, .int .i64 z.s.wait, .int .i64 z.e] : Value) = og7
        try generalize (Value.agg #[.int .i64 q.h.kind, .int .i64 q.h.form, .string q.h.text, .int .i64 q.h.line, .int .i64 q.h.col, .slice ka8 (len q.k) kc8, .slice ta8 q.s.toks.length tc8, .int .i64 q.s.at_, .slice oa8 q.s.opn.length oc8, .int .i64 q.s.wait, .int .i64 q.e] : Value) = og8
        try generalize (Value.agg #[.slice ta6 p.s.toks.length tc6, .int .i64 p.s.at_, .slice oa6 p.s.opn.length oc6, .int .i64 p.s.wait] : Value) = og9
        obtain ⟨c0, c1, c2, c3, c4, c5, c6, c7, c8, c9, c10⟩ := eleven yU
        have NU := Lib.hid nU
        have KU := Lib.hid kU
        have SU := Lib.hid sU
        have YU := Lib.hid yU
        have MU := Lib.hid mU
        have RU := Lib.hid rU
        have HNM := Lib.hid (show v7.ownBlock ≠ some M from fun e => (nU.own _ e).2 (by simp))
        have HNR := Lib.hid (show v7.ownBlock ≠ some R2 from fun e => (nU.own _ e).2 (by simp))
        have HQU : Hid (∀ b, U2.heap.size ≤ b → (Pm P [w.heap.size, R2, M]) b) := Pm.of HP.out (by have := rU.lt; have := yU.lt; have := nR.out; simp; omega) mU.grown.size
        clear nU kU sU yU mU rU
        obtain ⟨K, hK⟩ : ∃ K, pushF (foL l9) z = K := ⟨_, rfl⟩
        rw [hK] at HCL
        have HK := Lib.hid hK
        clear hK
        go_upto_region 12 with (first
          | (at_builtin; refine append_lit U2 rfl _ _ rfl 0 (Pm P [w.heap.size, R2, M]) v7 l9 [⟨z.h, z.k, .slice ka9 (len z.k) kc9⟩] rfl NU.out _ _ rfl _ _ rfl rfl (fun x hx => by rw [List.mem_singleton.1 hx]; exact KU.out) (by have := HL9.out; simp; omega) (Nat.zero_le _) HQU.out ?_; intro v3 w3 n3 m3; have k3 := n3.on (by have := HL9.out; unfold maxLen; rw [List.length_append]; simp; omega); rw [foL_push, HK.out] at k3; obtain ⟨ka3, kc3, rfl⟩ := k3.len; have K3 := Lib.hid k3; have S3 := Lib.hid (m3.st SU.out); have R3 := Lib.hid (m3.lies RU.out HNR.out); have y3 := m3.lies YU.out HNM.out; have M3 := Lib.hid (MU.out.trans m3); clear n3 m3 k3; clear c0 c1 c2 c3 c4 c5 c6 c7 c8 c9 c10; obtain ⟨c0, c1, c2, c3, c4, c5, c6, c7, c8, c9, c10⟩ := eleven y3; obtain ⟨g0, g1, g2, g3, g4, g5, g6, g7, g8, g9, g10⟩ := free11 y3; have Y3 := Lib.hid y3; clear y3))
        clear NU KU SU YU MU RU HNM HNR HQU
        try generalize (Value.agg #[.int .i64 z.h.kind, .int .i64 z.h.form, .string z.h.text, .int .i64 z.h.line, .int .i64 z.h.col, .slice ka9 (len z.k) kc9] : Value) = og10
        go_upto_region 13 with fail
        have q2 := fun b (h : (Pm P [w.heap.size, R2, M]) b) => (show b ≠ M from fun e => h.2 (by rw [e]; simp))
        refine gen_world (fun V => KOn V (Pm P [w.heap.size, R2, M]) (.slice ka3 (len K) kc3) K ∧ StOn V (Pm P [w.heap.size, R2, M]) (.slice ta9 z.s.toks.length tc9) (.slice oa9 z.s.opn.length oc9) z.s ∧ Lies V R2 kRd ∧ Lies V M (rdO (nodeH 38) (.slice ka3 (len K) kc3) (.slice ta9 z.s.toks.length tc9) z.s.at_ (.slice oa9 z.s.opn.length oc9) z.s.wait z.e) ∧ Mv w V (.slice none 0 0) (.slice ka3 (len K) kc3)) ⟨KOn.sett6 K3.out q2 .., (StOn.set6 S3.out (fun b h => q2 b h.1) ..).less (fun b _ h => h.1), (set6_keep _ (by have := HM2.out; omega) ..).trans R3.out, set6_lies Y3.out (nodeH 38) _, mv_set6 M3.out (by have := HM2.out; have := nR.out; omega) ..⟩ ?_
        rintro V2 ⟨kV, sV, rV, yV, mV⟩
        clear c0 c1 c2 c3 c4 c5 c6 c7 c8 c9 c10 g0 g1 g2 g3 g4 g5 g6 g7 g8 g9 g10 q2 K3 S3 R3 Y3 M3
        obtain ⟨c0, c1, c2, c3, c4, c5, c6, c7, c8, c9, c10⟩ := eleven yV
        have C2 := Lib.hid (CC.out (Pm P [w.heap.size, R2, M]) ⟨nodeH 38, K, z.s, z.e⟩ _ _ _ V2 kV sV)
        dsimp only at C2
        rw [HCL.out] at C2
        dsimp only [nodeH] at c0 c1 c2 c3 c4 C2
        have RZ := Lib.hid rV
        have MU := Lib.hid mV
        clear kV sV rV yV mV
        go_wp2_with (first
          | (go_at_call 30; refine C2.out.mono ?_; rintro e w8 ⟨ka8, kc8, ta8, tc8, oa8, oc8, rfl, k8, s8, b8⟩; have B8 := Lib.hid b8; have K8 := Lib.hid k8; have S8 := Lib.hid s8; have r9 := RZ.out.below B8.out RZ.out.lt; clear b8 k8 s8; unfold kRd at r9; obtain ⟨f0, f1, f2, f3, f4, f5, f6, f7, f8, f9, f10⟩ := free11 r9; obtain ⟨e0, e1, e2, e3, e4, e5, e6, e7, e8, e9, e10⟩ := eleven r9; dsimp only [zeroN] at e0 e1 e2 e3 e4; have R9 := Lib.hid r9; clear r9))
        refine bodyPost_ret (res_rd Try.results19 rfl (set11_lies R9.out x.h (.slice ka8 (len x.k) kc8) (.slice ta8 x.s.toks.length tc8) x.s.at_ (.slice oa8 x.s.opn.length oc8) x.s.wait x.e)) rfl ?_
        exact rd_done (mv_bel (MU.out.after B8.out)) (Nat.le_of_lt nR.out) K8.out S8.out (fun b hb q => ⟨q.1, fun e => q.2 (by rw [e]; simp)⟩)
    · have x1 : (y.e != 0) = true := bne_iff_ne.2 h0
      have hx := HX.out
      rw [if_neg (fun q => h0 q.1)] at hx
      have HCL := Lib.hid hx
      generalize arrowsR A y = z at *
      clear hx h0 HX CI CT CY2 CRR HAF HLF HLS IX
      go_upto_region 6 with fail
      go_wp2_with (first
        | (go_at_call 36; refine (AR.out _ BC.out).mono ?_; rintro e w7 ⟨ka7, kc7, ta7, tc7, oa7, oc7, rfl, k7, s7, b7⟩; have B7 := Lib.hid (afterL BC.out b7); have c2 := CC.out _ _ _ _ _ w7 k7 s7; rw [HCL.out] at c2; have C2 := Lib.hid c2; clear b7 k7 s7 c2)
        | (go_at_call 30; refine C2.out.mono ?_; rintro e w8 ⟨ka8, kc8, ta8, tc8, oa8, oc8, rfl, k8, s8, b8⟩; have B8 := Lib.hid (afterL B7.out b8); have K8 := Lib.hid k8; have S8 := Lib.hid s8; have r9 := RZ.out.below B8.out RZ.out.lt; clear b8 k8 s8; unfold kRd at r9; obtain ⟨f0, f1, f2, f3, f4, f5, f6, f7, f8, f9, f10⟩ := free11 r9; obtain ⟨e0, e1, e2, e3, e4, e5, e6, e7, e8, e9, e10⟩ := eleven r9; dsimp only [zeroN] at e0 e1 e2 e3 e4; have R9 := Lib.hid r9; clear r9))
      refine bodyPost_ret (res_rd Try.results19 rfl (set11_lies R9.out x.h (.slice ka8 (len x.k) kc8) (.slice ta8 x.s.toks.length tc8) x.s.at_ (.slice oa8 x.s.opn.length oc8) x.s.wait x.e)) rfl ?_
      exact rd_done (afterL BZ.out B8.out) (Nat.le_of_lt nR.out) K8.out S8.out (fun b hb q => ⟨q.1, fun e => q.2 (by rw [e]; simp)⟩)
end Go.Proofs.Ytmgclgojmckfhaa.Typ
