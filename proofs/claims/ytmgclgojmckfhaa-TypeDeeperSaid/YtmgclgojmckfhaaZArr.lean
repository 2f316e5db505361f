/-
  The document's arrows: what may stand behind a row. Conditions: what the document's Next and row do, and sizes that are borne.
-/
import Derived.Test.YtmgclgojmckfhaaZRow
namespace Go.Proofs.Ytmgclgojmckfhaa.Typ
open Tks Tre Go.RowKit
open Lay (Sx StV Fit9 nextS NextOut tkV9 IntArg)
set_option linter.unusedSimpArgs false
set_option linter.unusedVariables false

set_option maxRecDepth 1000000 in
set_option maxHeartbeats 1000000 in
theorem arrows_any {N : Nat} (hN : N ≤ 1099511627776) (hN2 : 20 * N + 20 ≤ 1099511627776) (R : NextOn 59) (A : Sx → Rd) (hAF : ∀ s, Fits N s → Fits N (A s).s) (hAL : ∀ s, Lv s (A s)) (deep : Int) (CA : ∀ (P : Nat → Prop) (tv ov : Value) (s : Sx) (W : World), StOn W P tv ov s → Fits N s → (∀ b, W.heap.size ≤ b → P b) → Calls Try.prog 34 #[stV tv s.at_ ov s.wait, .int .i64 deep] W (RdOut (A s) P W.heap.size W)) (P : Nat → Prop) (y : Rd) (kv tv ov : Value) (w : World) (hk : KOn w P kv y.k) (hs : StOn w P tv ov y.s) (hf : Fits N y.s) (hP : ∀ b, w.heap.size ≤ b → P b) (hlf : y.e = 0 → lf y.s ≤ 6 * N + 2) :
    Calls Try.prog 36 #[rdV y.h kv tv y.s.at_ ov y.s.wait y.e, .int .i64 deep] w (RdOut (arrowsR A y) P w.heap.size w) := by
  obtain ⟨ta, tc, oa, oc, rfl, rfl⟩ := hs.len
  obtain ⟨ka, kc, rfl⟩ := hk.len
  have CI := Lib.hid (fun Q tv ov s W h hf => is_any hN R Q tv ov s 10 ⟨#[45, 62]⟩ W h hf)
  have CT := Lib.hid (fun Q tv ov s W h hf h2 => take_any hN R Q tv ov s W h hf h2)
  have CY := Lib.hid CA
  unfold RdOut rdV at CY CT
  unfold stV at CI CT CY
  unfold rdV
  have HAF := Lib.hid hAF
  have HAL := Lib.hid hAL
  have HS := Lib.hid hs
  have HK := Lib.hid hk
  have HP := Lib.hid hP
  have HF := Lib.hid hf
  have HLF := Lib.hid hlf
  have HN2 := Lib.hid hN2
  obtain ⟨x, hx⟩ : ∃ x, arrowsR A y = x := ⟨_, rfl⟩
  have HX := Lib.hid hx
  rw [hx]
  clear hs hk hf hP R CA hAF hAL hlf hN2 hx
  go_enter Try.func36, Try.ntmps36
  go_upto_region 1 with fail
  refine gen_world (fun X => Below w.heap.size w X ∧ Lies X w.heap.size (rdO y.h (.slice ka (len y.k) kc) (.slice ta y.s.toks.length tc) y.s.at_ (.slice oa y.s.opn.length oc) y.s.wait y.e) ∧ Lies X (w.heap.size + 1) kRd) ⟨below_two' w _ _, (two_lie w _ _).1, (two_lie w _ _).2⟩ ?_
  rintro X ⟨bX, yX, rX⟩
  have nR : Hid (w.heap.size < w.heap.size + 1) := Nat.lt_succ_self _
  generalize w.heap.size + 1 = R2 at *
  have OX := HS.out.into (l := [w.heap.size, R2]) bX (by have := nR.out; simp; omega)
  have QX := KOn.into HK.out (l := [w.heap.size, R2]) bX (by have := nR.out; simp; omega)
  have PX := Pm.of (l := [w.heap.size, R2]) HP.out (by have := rX.lt; have := yX.lt; simp; omega) bX.size
  obtain ⟨c0, c1, c2, c3, c4, c5, c6, c7, c8, c9, c10⟩ := eleven yX
  have BX := Lib.hid bX
  have RX := Lib.hid rX
  have YX := Lib.hid yX
  have IX := Lib.hid (CI.out _ _ _ y.s X OX HF.out)
  change Hid (Calls _ _ _ _ (fun e w' => e = .returned (.bool (isR y.s 10 [45, 62])) ∧ _)) at IX
  have OX := Lib.hid OX
  have QX := Lib.hid QX
  have PX := Lib.hid PX
  clear bX rX yX HS HK
  try generalize (Value.agg #[.int .i64 y.h.kind, .int .i64 y.h.form, .string y.h.text, .int .i64 y.h.line, .int .i64 y.h.col, .slice ka (len y.k) kc, .slice ta y.s.toks.length tc, .int .i64 y.s.at_, .slice oa y.s.opn.length oc, .int .i64 y.s.wait, .int .i64 y.e] : Value) = og1
  by_cases h0 : y.e = 0
  · have x1 : (y.e != 0) = false := by rw [bne, beq_iff_eq.2 h0]; rfl
    have H0 := Lib.hid h0
    have hlf := HLF.out h0
    have HLF := Lib.hid hlf
    clear h0 hlf
    cases hi : isR y.s 10 [45, 62] with
    | false =>
      rw [hi] at IX
      have hx := HX.out
      unfold arrowsR at hx
      rw [if_neg (fun q => by rw [hi] at q; exact absurd q.2 (by decide))] at hx
      have HX := Lib.hid hx
      clear hx hi CI CT CY
      go_wp2_with (first
        | (go_at_call 38; refine IX.out.mono ?_; rintro e w4 ⟨rfl, b4⟩; have BC := Lib.hid b4; have y9 := YX.out.below b4 YX.out.lt; have r9 := RX.out.below b4 RX.out.lt; clear c0 c1 c2 c3 c4 c5 c6 c7 c8 c9 c10 b4; obtain ⟨c0, c1, c2, c3, c4, c5, c6, c7, c8, c9, c10⟩ := eleven y9; unfold kRd at r9; obtain ⟨f0, f1, f2, f3, f4, f5, f6, f7, f8, f9, f10⟩ := free11 r9; obtain ⟨e0, e1, e2, e3, e4, e5, e6, e7, e8, e9, e10⟩ := eleven r9; dsimp only [zeroN] at e0 e1 e2 e3 e4; have R9 := Lib.hid r9; clear y9 r9))
      refine bodyPost_ret (res_rd Try.results36 rfl (set11_lies R9.out y.h (.slice ka (len y.k) kc) (.slice ta y.s.toks.length tc) y.s.at_ (.slice oa y.s.opn.length oc) y.s.wait y.e)) rfl ?_
      rw [← HX.out]
      exact rd_done (afterL BX.out BC.out) (Nat.le_of_lt nR.out) (QX.out.below BC.out (Nat.le_refl _)) (OX.out.below BC.out (Nat.le_refl _)) (fun b hb q => ⟨q.1, fun e => q.2 (by rw [e]; simp)⟩)
    | true =>
      rw [hi] at IX
      have hx := HX.out
      unfold arrowsR at hx
      rw [if_pos ⟨H0.out, hi⟩] at hx
      have HCO : Hid (∃ f, lf y.s < f ∧ arrowF A f (oneF y) y.s = x) := ⟨_, Nat.lt_succ_self _, hx⟩
      clear hx HX hi
      go_upto_region 3 with (first
        | (go_at_call 38; refine IX.out.mono ?_; rintro e w4 ⟨rfl, b4⟩; have BC := Lib.hid b4; have y9 := YX.out.below b4 YX.out.lt; clear c0 c1 c2 c3 c4 c5 c6 c7 c8 c9 c10 b4; obtain ⟨c0, c1, c2, c3, c4, c5, c6, c7, c8, c9, c10⟩ := eleven y9; clear y9))
      go_upto_region 4 with fail
      obtain ⟨l8, hl8⟩ : ∃ l8 : List Nv, [(⟨y.h, y.k, .slice ka (len y.k) kc⟩ : Nv)] = l8 := ⟨_, rfl⟩
      have E8 : Hid (foL l8 = oneF y) := by rw [← hl8]; rfl
      have HL8 : Hid (l8.length = 1) := by rw [← hl8]; rfl
      have qB := QX.out.below BC.out (Nat.le_refl _)
      have oB := OX.out.below BC.out (Nat.le_refl _)
      refine gen_world (fun V => NdP V 0 (Pm P [w.heap.size, R2]) (.slice (some ⟨w4.heap.size, 0, none⟩) 1 1) l8 ∧ StOn V (Px (Pm P [w.heap.size, R2]) (.slice (some ⟨w4.heap.size, 0, none⟩) 1 1)) (.slice ta y.s.toks.length tc) (.slice oa y.s.opn.length oc) y.s ∧ Lies V R2 kRd ∧ Lies V w.heap.size (rdO y.h (.slice ka (len y.k) kc) (.slice ta y.s.toks.length tc) y.s.at_ (.slice oa y.s.opn.length oc) y.s.wait y.e) ∧ Mv w V (.slice none 0 0) (.slice (some ⟨w4.heap.size, 0, none⟩) 1 1)) ⟨hl8 ▸ NdP.lit (w := w4) (B := 0) (P := (Pm P [w.heap.size, R2])) [(⟨y.h, y.k, .slice ka (len y.k) kc⟩ : Nv)] (cs := #[.int .i64 y.h.kind, .int .i64 y.h.form, .string y.h.text, .int .i64 y.h.line, .int .i64 y.h.col, .slice ka (len y.k) kc]) rfl (fun x hx => by rw [List.mem_singleton.1 hx]; exact qB) (Nat.zero_le _) (one_len _) (PX.out _ BC.out.size), oB.lit _ _ _, (RX.out.below BC.out RX.out.lt).alloc _, (YX.out.below BC.out YX.out.lt).alloc _, mv_lit (afterL BX.out BC.out) _ _ _⟩ ?_
      rintro V ⟨nV, sV, rV, yV, mV⟩
      clear c0 c1 c2 c3 c4 c5 c6 c7 c8 c9 c10 RX YX qB oB hl8 OX QX PX IX BC BX
      try generalize (Value.agg #[.int .i64 y.h.kind, .int .i64 y.h.form, .string y.h.text, .int .i64 y.h.line, .int .i64 y.h.col, .slice ka (len y.k) kc] : Value) = og2
      try generalize (Value.agg #[.slice ta y.s.toks.length tc, .int .i64 y.s.at_, .slice oa y.s.opn.length oc, .int .i64 y.s.wait] : Value) = og3
      generalize ((.slice (some ⟨w4.heap.size, 0, none⟩) 1 1) : Value) = v1 at *
      have NV := Lib.hid nV
      have SV := Lib.hid sV
      have RV := Lib.hid rV
      have YV := Lib.hid yV
      have MV := Lib.hid mV
      clear nV sV rV yV mV
      go_loopw [5] (fun u wr => ∃ (l' : List Nv) (z : Rd) (ka1 ta1 oa1 : Option Addr) (kc1 tc1 oc1 f : Nat), NdP wr 0 (Pm P [w.heap.size, R2]) u l' ∧ StOn wr (Px (Pm P [w.heap.size, R2]) u) (.slice ta1 z.s.toks.length tc1) (.slice oa1 z.s.opn.length oc1) z.s ∧ Lies wr R2 kRd ∧ Lies wr w.heap.size (rdO z.h (.slice ka1 (len z.k) kc1) (.slice ta1 z.s.toks.length tc1) z.s.at_ (.slice oa1 z.s.opn.length oc1) z.s.wait z.e) ∧ Mv w wr (.slice none 0 0) u ∧ V.heap.size ≤ wr.heap.size ∧ Fits N z.s ∧ z.e = 0 ∧ l'.length + 2 * lf z.s ≤ 12 * N + 5 ∧ lf z.s < f ∧ arrowF A f (foL l') z.s = x) (fun u _ => 12 * N + 10 - lenOf u)
      case atStart =>
        obtain ⟨f, h1, h2⟩ := HCO.out
        have := HL8.out
        have := HLF.out
        exact ⟨l8, y, ka, ta, oa, kc, tc, oc, f, NV.out, SV.out, RV.out, YV.out, MV.out, Nat.le_refl _, HF.out, H0.out, by omega, h1, by rw [E8.out]; exact h2⟩
      case round =>
        obtain ⟨l', z, ka1, ta1, oa1, kc1, tc1, oc1, f, hn, hs, hr, hy, hm, hsz, hf, h0, hl, hlt, hx⟩ := hrel
        have hn2 := HN2.out
        obtain ⟨va1, vc1, rfl⟩ := (hn.on (by unfold maxLen; omega)).len
        clear HCO NV SV RV YV MV HLF E8 HL8 HF H0 x1
        obtain ⟨f, rfl⟩ : ∃ g, f = g + 1 := ⟨f - 1, by omega⟩
        unfold arrowF at hx
        have x1 : (z.e != 0) = false := by rw [bne, beq_iff_eq.2 h0]; rfl
        have PX := Pxm.of (v := (.slice va1 (len (foL l')) vc1)) (l := [w.heap.size, R2]) HP.out (by have := hr.lt; have := hy.lt; simp; omega) (fun b e => (hn.lt e).2) hm.grown.size
        obtain ⟨c0, c1, c2, c3, c4, c5, c6, c7, c8, c9, c10⟩ := eleven hy
        have HSZ := Lib.hid hsz
        have HLT := Lib.hid hlt
        have HL := Lib.hid hl
        have H0 := Lib.hid h0
        have RW := Lib.hid hr
        have YW := Lib.hid hy
        have NW := Lib.hid hn
        have MW := Lib.hid hm
        have SW := Lib.hid hs
        have IW := Lib.hid (CI.out _ _ _ z.s wr hs hf)
        change Hid (Calls _ _ _ _ (fun e w' => e = .returned (.bool (isR z.s 10 [45, 62])) ∧ _)) at IW
        have TW := Lib.hid (fun W (h : Below wr.heap.size wr W) => CT.out (Px (Pm P [w.heap.size, R2]) (.slice va1 (len (foL l')) vc1)) _ _ z.s W (hs.below h (Nat.le_refl _)) hf (fun b hb => PX b (Nat.le_trans h.size hb)))
        have IL := @is_less z.s 10 [45, 62]
        have HF1 := Lib.hid (fits_take hf)
        clear hl hlt hsz hn hs hr hy hm hf PX hn2 h0 CI CT
        cases hi : isR z.s 10 [45, 62] with
        | true =>
          rw [hi] at hx IW
          rw [if_pos rfl] at hx
          have IL := Lib.hid (IL hi (by decide))
          have HX := Lib.hid hx
          generalize takeR z.s = p at *
          have HAL1 := Lib.hid (HAL.out p.s)
          have HF2 := Lib.hid (HAF.out _ HF1.out)
          obtain ⟨q, hq⟩ : ∃ q, A p.s = q := ⟨_, rfl⟩
          rw [hq] at HX HAL1 HF2
          have HQ0 := Lib.hid hq
          clear hq
          clear hi hx HAL HAF
          go_upto_region 5 with (first
            | (go_at_call 38; refine IW.out.mono ?_; rintro e w5 ⟨rfl, b5⟩; have BC := Lib.hid b5; have y9 := YW.out.below b5 YW.out.lt; clear c0 c1 c2 c3 c4 c5 c6 c7 c8 c9 c10 b5; obtain ⟨c0, c1, c2, c3, c4, c5, c6, c7, c8, c9, c10⟩ := eleven y9; clear y9))
          go_upto_region 6 with (first
            | (go_at_call 39; refine (TW.out _ BC.out).mono ?_; rintro e w6 ⟨ka6, kc6, ta6, tc6, oa6, oc6, rfl, k6, s6, b6⟩; have B6 := Lib.hid (afterL BC.out b6); have K6 := Lib.hid k6; have S6 := Lib.hid s6; have y6 := YW.out.below B6.out YW.out.lt; clear b6 k6 s6; clear c0 c1 c2 c3 c4 c5 c6 c7 c8 c9 c10; obtain ⟨c0, c1, c2, c3, c4, c5, c6, c7, c8, c9, c10⟩ := eleven y6; obtain ⟨f0, f1, f2, f3, f4, f5, f6, f7, f8, f9, f10⟩ := free11 y6; have Y6 := Lib.hid y6; clear y6))
          refine gen_world (fun U => NdP U 0 (Pm P [w.heap.size, R2]) (.slice va1 (len (foL l')) vc1) l' ∧ KOn U (Px (Pm P [w.heap.size, R2]) (.slice va1 (len (foL l')) vc1)) (.slice ka6 (len p.k) kc6) p.k ∧ StOn U (Px (Pm P [w.heap.size, R2]) (.slice va1 (len (foL l')) vc1)) (.slice ta6 p.s.toks.length tc6) (.slice oa6 p.s.opn.length oc6) p.s ∧ Lies U R2 kRd ∧ Lies U w.heap.size (rdO p.h (.slice ka6 (len p.k) kc6) (.slice ta6 p.s.toks.length tc6) p.s.at_ (.slice oa6 p.s.opn.length oc6) p.s.wait p.e) ∧ Mv w U (.slice none 0 0) (.slice va1 (len (foL l')) vc1) ∧ wr.heap.size ≤ U.heap.size) ⟨NdP.set11 (NW.out.below B6.out (Nat.le_refl _)) (fun b h e => h.2 (by rw [e]; simp)) .., KOn.set11 K6.out (fun b h e => h.1.2 (by rw [e]; simp)) .., StOn.set11 S6.out (fun b h e => h.1.2 (by rw [e]; simp)) .., set11_other (RW.out.below B6.out RW.out.lt) (by have := nR.out; omega) .., set11_lies Y6.out .., (MW.out.after B6.out).set11 (Nat.le_refl _) .., Nat.le_trans B6.out.size (Nat.le_of_eq (set11_size ..).symm)⟩ ?_
          rintro U ⟨nU, kU, sU, rU, yU, mU, zU⟩
          clear c0 c1 c2 c3 c4 c5 c6 c7 c8 c9 c10 f0 f1 f2 f3 f4 f5 f6 f7 f8 f9 f10 BC B6 K6 S6 Y6 IW TW NW SW RW YW MW
          try generalize (Value.agg #[.int .i64 p.h.kind, .int .i64 p.h.form, .string p.h.text, .int .i64 p.h.line, .int .i64 p.h.col, .slice ka6 (len p.k) kc6, .slice ta6 p.s.toks.length tc6, .int .i64 p.s.at_, .slice oa6 p.s.opn.length oc6, .int .i64 p.s.wait, .int .i64 p.e] : Value) = og4
          obtain ⟨c0, c1, c2, c3, c4, c5, c6, c7, c8, c9, c10⟩ := eleven yU
          have NU := Lib.hid nU
          have KU := Lib.hid kU
          have SU := Lib.hid sU
          have YU := Lib.hid yU
          have MU := Lib.hid mU
          have RU := Lib.hid rU
          have ZU := Lib.hid zU
          have HNM := Lib.hid (show ((.slice va1 (len (foL l')) vc1) : Value).ownBlock ≠ some w.heap.size from fun e => (nU.own _ e).2 (by simp))
          have HNR := Lib.hid (show ((.slice va1 (len (foL l')) vc1) : Value).ownBlock ≠ some R2 from fun e => (nU.own _ e).2 (by simp))
          have HQU : Hid (∀ b, U.heap.size ≤ b → (Pm P [w.heap.size, R2]) b) := Pm.of HP.out (by have := rU.lt; have := yU.lt; simp; omega) mU.grown.size
          clear nU kU sU yU mU rU zU
          go_upto_region 7 with (first
            | (at_builtin; refine append_lit U rfl _ _ rfl 0 (Pm P [w.heap.size, R2]) (.slice va1 (len (foL l')) vc1) l' [⟨p.h, p.k, .slice ka6 (len p.k) kc6⟩] rfl NU.out _ _ rfl _ _ rfl rfl (fun x hx => by rw [List.mem_singleton.1 hx]; exact KU.out) (by have := HL.out; have := HN2.out; simp; omega) (Nat.zero_le _) HQU.out ?_; intro v7 w7 n7 m7; have N7 := Lib.hid n7; have s7 := m7.st SU.out; have r7 := m7.lies RU.out HNR.out; have y7 := m7.lies YU.out HNM.out; have M7 := Lib.hid (MU.out.trans m7); have Z7 := Lib.hid (Nat.le_trans ZU.out m7.grown.size); have aw := CY.out (Px (Pm P [w.heap.size, R2]) v7) _ _ p.s w7 s7 HF1.out (Pxm.of HP.out (by have := r7.lt; have := y7.lt; simp; omega) (fun b e => (n7.lt e).2) (MU.out.trans m7).grown.size); rw [HQ0.out] at aw; have AW := Lib.hid aw; clear aw; have R7 := Lib.hid r7; have YW := Lib.hid y7; clear n7 m7 s7 r7; clear c0 c1 c2 c3 c4 c5 c6 c7 c8 c9 c10; obtain ⟨c0, c1, c2, c3, c4, c5, c6, c7, c8, c9, c10⟩ := eleven y7; clear y7))
          obtain ⟨l9, hl9⟩ : ∃ l9, l' ++ [(⟨p.h, p.k, .slice ka6 (len p.k) kc6⟩ : Nv)] = l9 := ⟨_, rfl⟩
          have hf9 : pushF (foL l') p = foL l9 := by
            rw [← hl9, foL_push]
          have HL9 : Hid (l9.length = l'.length + 1) := by
            unfold Hid
            rw [← hl9, List.length_append, List.length_singleton]
          rw [hl9] at N7
          have NW := N7
          have RW := R7
          have MW := M7
          rw [hf9] at HX
          clear hl9 hf9 N7 R7 NU KU SU YU MU RU ZU HNM HNR HQU M7
          try generalize (Value.agg #[.int .i64 p.h.kind, .int .i64 p.h.form, .string p.h.text, .int .i64 p.h.line, .int .i64 p.h.col, .slice ka6 (len p.k) kc6] : Value) = og5
          try generalize (Value.agg #[.slice ta6 p.s.toks.length tc6, .int .i64 p.s.at_, .slice oa6 p.s.opn.length oc6, .int .i64 p.s.wait] : Value) = og6
          go_upto_region 8 with (first
            | (go_at_call 34; refine AW.out.mono ?_; rintro e w8 ⟨ka8, kc8, ta8, tc8, oa8, oc8, rfl, k8, s8, b8⟩; have B8 := Lib.hid (afterL (Below.refl _ _) b8); have K8 := Lib.hid k8; have S8 := Lib.hid s8; have y8 := YW.out.below B8.out YW.out.lt; clear b8 k8 s8; clear c0 c1 c2 c3 c4 c5 c6 c7 c8 c9 c10; obtain ⟨c0, c1, c2, c3, c4, c5, c6, c7, c8, c9, c10⟩ := eleven y8; obtain ⟨f0, f1, f2, f3, f4, f5, f6, f7, f8, f9, f10⟩ := free11 y8; have Y8 := Lib.hid y8; clear y8))
          refine gen_world (fun U2 => NdP U2 0 (Pm P [w.heap.size, R2]) v7 l9 ∧ KOn U2 (Px (Pm P [w.heap.size, R2]) v7) (.slice ka8 (len q.k) kc8) q.k ∧ StOn U2 (Px (Pm P [w.heap.size, R2]) v7) (.slice ta8 q.s.toks.length tc8) (.slice oa8 q.s.opn.length oc8) q.s ∧ Lies U2 R2 kRd ∧ Lies U2 w.heap.size (rdO q.h (.slice ka8 (len q.k) kc8) (.slice ta8 q.s.toks.length tc8) q.s.at_ (.slice oa8 q.s.opn.length oc8) q.s.wait q.e) ∧ Mv w U2 (.slice none 0 0) v7 ∧ w7.heap.size ≤ U2.heap.size) ⟨NdP.set11 (NW.out.below B8.out (Nat.le_refl _)) (fun b h e => h.2 (by rw [e]; simp)) .., KOn.set11 K8.out (fun b h e => h.1.2 (by rw [e]; simp)) .., StOn.set11 S8.out (fun b h e => h.1.2 (by rw [e]; simp)) .., set11_other (RW.out.below B8.out RW.out.lt) (by have := nR.out; omega) .., set11_lies Y8.out .., (MW.out.after B8.out).set11 (Nat.le_refl _) .., Nat.le_trans B8.out.size (Nat.le_of_eq (set11_size ..).symm)⟩ ?_
          rintro U2 ⟨nU, kU, sU, rU, yU, mU, zU⟩
          clear c0 c1 c2 c3 c4 c5 c6 c7 c8 c9 c10 f0 f1 f2 f3 f4 f5 f6 f7 f8 f9 f10 B8 K8 S8 Y8 AW NW RW YW MW
          try generalize (Value.agg #[.int .i64 q.h.kind, .int .i64 q.h.form, .string q.h.text, .int .i64 q.h.line, .int .i64 q.h.col, .slice ka8 (len q.k) kc8, .slice ta8 q.s.toks.length tc8, .int .i64 q.s.at_, .slice oa8 q.s.opn.length oc8, .int .i64 q.s.wait, .int .i64 q.e] : Value) = og7
          obtain ⟨c0, c1, c2, c3, c4, c5, c6, c7, c8, c9, c10⟩ := eleven yU
          have NU := Lib.hid nU
          have KU := Lib.hid kU
          have SU := Lib.hid sU
          have YU := Lib.hid yU
          have MU := Lib.hid mU
          have RU := Lib.hid rU
          have ZU := Lib.hid (Nat.le_trans Z7.out zU)
          have HNM := Lib.hid (show v7.ownBlock ≠ some w.heap.size from fun e => (nU.own _ e).2 (by simp))
          have HNR := Lib.hid (show v7.ownBlock ≠ some R2 from fun e => (nU.own _ e).2 (by simp))
          have HQU : Hid (∀ b, U2.heap.size ≤ b → (Pm P [w.heap.size, R2]) b) := Pm.of HP.out (by have := rU.lt; have := yU.lt; simp; omega) mU.grown.size
          clear nU kU sU yU mU zU Z7
          by_cases u0 : q.e = 0
          · have x2 : (q.e != 0) = false := by rw [bne, beq_iff_eq.2 u0]; rfl
            have hx := HX.out
            rw [if_pos u0] at hx
            have HX := Lib.hid hx
            have U0 := Lib.hid u0
            have HLQ := Lib.hid (lv_less (HAL1.out u0))
            clear u0 hx rU
            go_wp2_with (first
              | (at_builtin; refine append_lit U2 rfl _ _ rfl 0 (Pm P [w.heap.size, R2]) v7 l9 [⟨q.h, q.k, .slice ka8 (len q.k) kc8⟩] rfl NU.out _ _ rfl _ _ rfl rfl (fun x hx => by rw [List.mem_singleton.1 hx]; exact KU.out) (by have := HL.out; have := HN2.out; have := HL9.out; simp; omega) (Nat.zero_le _) HQU.out ?_; intro v9 w9 n9 m9; have N9 := Lib.hid n9; have S9 := Lib.hid (m9.st SU.out); have R9 := Lib.hid (m9.lies RU.out HNR.out); have Y9 := Lib.hid (m9.lies YU.out HNM.out); have M9 := Lib.hid (MU.out.trans m9); have Z9 := Lib.hid (Nat.le_trans ZU.out m9.grown.size); clear n9 m9))
            obtain ⟨va4, vc4, e4⟩ := N9.out.slice
            refine ⟨⟨_, q, ka8, ta8, oa8, kc8, tc8, oc8, f, N9.out, S9.out, R9.out, Y9.out, M9.out, Nat.le_trans HSZ.out Z9.out, HF2.out, U0.out, ?_, ?_, ?_⟩, ?_⟩
            · have := HL.out
              have := HL9.out
              have := HLQ.out
              have := IL.out.2.2
              rw [List.length_append, List.length_singleton]
              omega
            · have := HLT.out
              have := HLQ.out
              have := IL.out.2.2
              omega
            · rw [foL_push]
              exact HX.out
            · rw [e4]
              have := HL.out
              have := HL9.out
              simp only [lenOf, List.length_append, List.length_singleton, len_foL]
              omega
          · have x2 : (q.e != 0) = true := bne_iff_ne.2 u0
            have hx := HX.out
            rw [if_neg u0] at hx
            have HX := Lib.hid hx
            unfold kRd at rU
            obtain ⟨f0, f1, f2, f3, f4, f5, f6, f7, f8, f9, f10⟩ := free11 rU
            obtain ⟨e0, e1, e2, e3, e4, e5, e6, e7, e8, e9, e10⟩ := eleven rU
            dsimp only [zeroN] at e0 e1 e2 e3 e4
            have R9 := Lib.hid rU
            clear u0 hx rU
            go_wp2_with fail
            refine bodyPost_ret (res_rd Try.results36 rfl (set11_lies R9.out q.h (.slice ka8 (len q.k) kc8) (.slice ta8 q.s.toks.length tc8) q.s.at_ (.slice oa8 q.s.opn.length oc8) q.s.wait q.e)) rfl ?_
            rw [← HX.out]
            exact rd_done (mv_bel MU.out) (Nat.le_of_lt nR.out) KU.out SU.out (fun b hb q => ⟨q.1.1, fun e => q.1.2 (by rw [e]; simp)⟩)
        | false =>
          rw [hi] at hx IW
          rw [if_neg (by decide)] at hx
          have HX := Lib.hid hx
          clear hi hx TW IL CY HAL HAF
          go_upto_region 11 with (first
            | (go_at_call 38; refine IW.out.mono ?_; rintro e w5 ⟨rfl, b5⟩; have BC := Lib.hid b5; have y9 := YW.out.below b5 YW.out.lt; clear c0 c1 c2 c3 c4 c5 c6 c7 c8 c9 c10 b5; obtain ⟨c0, c1, c2, c3, c4, c5, c6, c7, c8, c9, c10⟩ := eleven y9; clear y9))
          have KA := Lib.hid ((NW.out.on (by have := HL.out; have := HN2.out; unfold maxLen; omega)).below BC.out (Nat.le_refl _))
          have RU := RW.out.below BC.out RW.out.lt
          have YU := YW.out.below BC.out YW.out.lt
          have SU := Lib.hid (SW.out.below BC.out (Nat.le_refl _))
          have MU := Lib.hid (MW.out.after BC.out)
          have R9 := Lib.hid RU
          have Y9 := Lib.hid YU
          obtain ⟨g0, g1, g2, g3, g4, g5, g6, g7, g8, g9, g10⟩ := free11 YU
          clear IW NW RW YW SW MW BC RU YU
          go_upto_region 12 with fail
          have q2 := fun b (h : (Pm P [w.heap.size, R2]) b) => (show b ≠ w.heap.size from fun e => h.2 (by rw [e]; simp))
          refine gen_world (fun V => KOn V (Pm P [w.heap.size, R2]) (.slice va1 (len (foL l')) vc1) (foL l') ∧ StOn V (Px (Pm P [w.heap.size, R2]) (.slice va1 (len (foL l')) vc1)) (.slice ta1 z.s.toks.length tc1) (.slice oa1 z.s.opn.length oc1) z.s ∧ Lies V R2 kRd ∧ Lies V w.heap.size (rdO (nodeH 37) (.slice va1 (len (foL l')) vc1) (.slice ta1 z.s.toks.length tc1) z.s.at_ (.slice oa1 z.s.opn.length oc1) z.s.wait z.e) ∧ Mv w V (.slice none 0 0) (.slice va1 (len (foL l')) vc1)) ⟨KOn.sett6 KA.out q2 .., StOn.set6 SU.out (fun b h => q2 b h.1) .., (set6_keep _ (by have := nR.out; omega) ..).trans R9.out, set6_lies Y9.out (nodeH 37) _, mv_set6 MU.out (Nat.le_refl _) ..⟩ ?_
          rintro V ⟨kV, sV, rV, yV, mV⟩
          clear c0 c1 c2 c3 c4 c5 c6 c7 c8 c9 c10 g0 g1 g2 g3 g4 g5 g6 g7 g8 g9 g10 q2 KA SU R9 Y9 MU
          obtain ⟨c0, c1, c2, c3, c4, c5, c6, c7, c8, c9, c10⟩ := eleven yV
          unfold kRd at rV
          obtain ⟨f0, f1, f2, f3, f4, f5, f6, f7, f8, f9, f10⟩ := free11 rV
          obtain ⟨e0, e1, e2, e3, e4, e5, e6, e7, e8, e9, e10⟩ := eleven rV
          dsimp only [zeroN] at e0 e1 e2 e3 e4
          dsimp only [nodeH] at c0 c1 c2 c3 c4
          have R9 := Lib.hid rV
          have KA := Lib.hid kV
          have SU := Lib.hid sV
          have MU := Lib.hid mV
          clear kV sV rV yV mV
          go_wp2_with fail
          refine bodyPost_ret (res_rd Try.results36 rfl (set11_lies R9.out (nodeH 37) (.slice va1 (len (foL l')) vc1) (.slice ta1 z.s.toks.length tc1) z.s.at_ (.slice oa1 z.s.opn.length oc1) z.s.wait z.e)) rfl ?_
          rw [← HX.out]
          have e9 := rd_done (x := ⟨nodeH 37, foL l', z.s, z.e⟩) (mv_bel MU.out) (Nat.le_of_lt nR.out) KA.out (SU.out.less (fun b _ q => q.1)) (fun b hb q => ⟨q.1, fun e => q.2 (by rw [e]; simp)⟩)
          rw [H0.out] at e9 ⊢
          exact e9
  · have x1 : (y.e != 0) = true := bne_iff_ne.2 h0
    have hx := HX.out
    unfold arrowsR at hx
    rw [if_neg (fun q => h0 q.1)] at hx
    have HX := Lib.hid hx
    have r9 := RX.out
    unfold kRd at r9
    obtain ⟨f0, f1, f2, f3, f4, f5, f6, f7, f8, f9, f10⟩ := free11 r9
    obtain ⟨e0, e1, e2, e3, e4, e5, e6, e7, e8, e9, e10⟩ := eleven r9
    dsimp only [zeroN] at e0 e1 e2 e3 e4
    have R9 := Lib.hid r9
    clear r9 h0 hx
    go_wp2_with fail
    refine bodyPost_ret (res_rd Try.results36 rfl (set11_lies R9.out y.h (.slice ka (len y.k) kc) (.slice ta y.s.toks.length tc) y.s.at_ (.slice oa y.s.opn.length oc) y.s.wait y.e)) rfl ?_
    rw [← HX.out]
    exact rd_done BX.out (Nat.le_of_lt nR.out) QX.out OX.out (fun b hb q => ⟨q.1, fun e => q.2 (by rw [e]; simp)⟩)
end Go.Proofs.Ytmgclgojmckfhaa.Typ
