/-
  The document's row: atoms in a row. Conditions: what the document's Next and atom do, and sizes that are borne.
-/
import Derived.Test.YtmgclgojmckfhaaZAta
namespace Go.Proofs.Ytmgclgojmckfhaa.Typ
open Tks Tre Go.RowKit
open Lay (Sx StV Fit9 nextS NextOut tkV9 IntArg)
set_option linter.unusedSimpArgs false
set_option linter.unusedVariables false

theorem mv_lit {w w4 : World} (h : Below w.heap.size w w4) (o : Obj) (n c : Nat) : Mv w (w4.alloc o) (.slice none 0 0) (.slice (some ⟨w4.heap.size, 0, none⟩) n c) := by
  have b := afterL h (below_one w4 o)
  exact ⟨⟨b.os, b.tape, b.output, b.size, fun k hk _ => b.block k hk⟩, .inr ⟨w4.heap.size, rfl, h.size⟩⟩
theorem mv_bel {w Z : World} {v : Value} (h : Mv w Z (.slice none 0 0) v) : Below w.heap.size w Z :=
  ⟨h.grown.os, h.grown.tape, h.grown.output, h.grown.size, fun k hk => h.grown.block k hk (by simp [Value.ownBlock])⟩
theorem rowF_err (A : Sx → Rd) (l : Fo) {x : Rd} (h : x.e ≠ 0) : ∀ f, rowF A f l x = x
  | 0 => if_neg h
  | f + 1 => if_neg h
theorem set6_lies {W : World} {B : Nat} {h : Hd} {kv tv ov : Value} {a wt e : Int} (q : Lies W B (rdO h kv tv a ov wt e)) (h' : Hd) (kv' : Value) : Lies (set6 W B (.int .i64 h'.kind) (.int .i64 h'.form) (.string h'.text) (.int .i64 h'.line) (.int .i64 h'.col) kv') B (rdO h' kv' tv a ov wt e) := by
  unfold rdO at q
  have q := Lies.put q 0 (.int .i64 h'.kind)
  have q := Lies.put q 1 (.int .i64 h'.form)
  have q := Lies.put q 2 (.string h'.text)
  have q := Lies.put q 3 (.int .i64 h'.line)
  have q := Lies.put q 4 (.int .i64 h'.col)
  have q := Lies.put q 5 kv'
  simp only [List.setIfInBounds_toArray, List.set_cons_zero, List.set_cons_succ] at q
  exact q
theorem NdP.set6 {W : World} {C : Nat} {P : Nat → Prop} {u : Value} {l : List Nv} {B : Nat} (q : NdP W C P u l) (hS : ∀ b, P b → b ≠ B) (a b c d e f : Value) : NdP (set6 W B a b c d e f) C P u l :=
  q.kept (by rw [set6_size]; exact Nat.le_refl _) (fun b hb hp => set6_keep W (by
    rcases hp with hp | hp
    · exact hS b (q.own b hp)
    · exact hS b hp.1) ..)
theorem StOn.set6 {W : World} {P : Nat → Prop} {ta oa : Value} {s : Sx} {B : Nat} (q : StOn W P ta oa s) (hS : ∀ b, P b → b ≠ B) (a b c d e f : Value) : StOn (set6 W B a b c d e f) P ta oa s :=
  q.kept (by rw [set6_size]; exact Nat.le_refl _) (fun b hb hp => ⟨set6_keep W (hS b hp) .., hp⟩)
theorem KOn.sett6 {W : World} {P : Nat → Prop} {v : Value} {k : Fo} {B : Nat} (q : KOn W P v k) (hS : ∀ b, P b → b ≠ B) (a b c d e f : Value) : KOn (set6 W B a b c d e f) P v k :=
  q.kept (by rw [set6_size]; exact Nat.le_refl _) (fun b hb hp => ⟨set6_keep W (hS b hp) .., hp⟩)
theorem mv_set6 {a b : World} {u v : Value} (h : Mv a b u v) {S : Nat} (hS : a.heap.size ≤ S) (x y p q r t : Value) : Mv a (set6 b S x y p q r t) u v :=
  (((((h.set (p := ⟨S, 0, none⟩) hS x).set (p := ⟨S, 1, none⟩) hS y).set (p := ⟨S, 2, none⟩) hS p).set (p := ⟨S, 3, none⟩) hS q).set (p := ⟨S, 4, none⟩) hS r).set (p := ⟨S, 5, none⟩) hS t
theorem steps_ne {s t : Sx} {l : List Tk} (h : Steps s l t) (hl : l ≠ []) : er s = 0 ∧ ∃ m, Steps (nx s) m t := by
  cases h with
  | nil => exact absurd rfl hl
  | cons e k h => exact ⟨e, _, h⟩
theorem starts_ok {s : Sx} (h : startsB (tk s) = true) : er s = 0 := by
  by_cases q : er s = 0
  · exact q
  · rw [starts_zero q] at h
    exact absurd h (by decide)
/-- After a reading that took something not much is left. -/
theorem lv_lf {N : Nat} {s t : Sx} {l : List Tk} (hf : Fits N s) (h : Steps s l t) (hl : l ≠ []) : lf t ≤ 6 * N + 2 := by
  obtain ⟨e, m, h2⟩ := steps_ne h hl
  exact Nat.le_trans (lv_less h2) (nx_lf e hf)
theorem lv_lt {s t : Sx} {l : List Tk} (h : Steps s l t) (hl : l ≠ []) : lf t < lf s := by
  cases h with
  | nil => exact absurd rfl hl
  | cons e k h => exact Nat.lt_of_le_of_lt (lv_less h) (step_less e k)
/-- Reads something wherever it goes well. -/
def Ne (A : Sx → Rd) : Prop := ∀ s, (A s).e = 0 → leavesN (A s).h (A s).k ≠ []
set_option maxRecDepth 1000000 in
set_option maxHeartbeats 1000000 in
theorem row_any {N : Nat} (hN : N ≤ 1099511627776) (hN2 : 12 * N + 20 ≤ 1099511627776) (R : NextOn 59) (A : Sx → Rd) (hAF : ∀ s, Fits N s → Fits N (A s).s) (hAL : ∀ s, Lv s (A s)) (hAN : Ne A) (deep : Int) (CA : ∀ (P : Nat → Prop) (tv ov : Value) (s : Sx) (W : World), StOn W P tv ov s → Fits N s → (∀ b, W.heap.size ≤ b → P b) → Calls Try.prog 31 #[stV tv s.at_ ov s.wait, .int .i64 deep] W (RdOut (A s) P W.heap.size W)) (P : Nat → Prop) (tv ov : Value) (s : Sx) (w : World) (hs : StOn w P tv ov s) (hf : Fits N s) (hP : ∀ b, w.heap.size ≤ b → P b) :
    Calls Try.prog 34 #[stV tv s.at_ ov s.wait, .int .i64 deep] w (RdOut (rowR A s) P w.heap.size w) := by
  obtain ⟨ta, tc, oa, oc, rfl, rfl⟩ := hs.len
  have CP := Lib.hid (fun Q tv ov s W h hf => peek_any hN R Q tv ov s W h hf)
  have CS := Lib.hid (fun t W => starts_any t W)
  have CY := Lib.hid CA
  unfold RdOut rdV at CY
  unfold stV at CP CY
  unfold tkV9 at CP CS
  unfold stV
  have HAF := Lib.hid hAF
  have HAL := Lib.hid hAL
  have HAN := Lib.hid hAN
  have HS := Lib.hid hs
  have HP := Lib.hid hP
  have HF := Lib.hid (hAF _ hf)
  have HLF : Hid ((A s).e = 0 → lf (A s).s ≤ 6 * N + 2) := fun h => lv_lf hf (hAL s h) (hAN s h)
  have HCO : Hid (∃ f, lf (A s).s < f ∧ rowF A f (oneF (A s)) (A s) = rowR A s) := ⟨_, Nat.lt_succ_self _, rfl⟩
  have CX0 := Lib.hid (fun Q W h h2 => CY.out Q (.slice ta s.toks.length tc) (.slice oa s.opn.length oc) s W h hf h2)
  generalize rowR A s = x at *
  generalize A s = y at *
  clear hs hf hP R CA hAF hAL hAN
  go_enter Try.func34, Try.ntmps34
  go_upto_region 1 with fail
  refine gen_world (fun X => Below w.heap.size w X ∧ Lies X w.heap.size (stB (.slice ta s.toks.length tc) s.at_ (.slice oa s.opn.length oc) s.wait) ∧ Lies X (w.heap.size + 1) kRd) ⟨below_two' w _ _, (two_lie w _ _).1, (two_lie w _ _).2⟩ ?_
  rintro X ⟨bX, lX, rX⟩
  have OX := HS.out.into (l := [w.heap.size, w.heap.size + 1]) bX (by simp)
  have PX := Pm.of (l := [w.heap.size, w.heap.size + 1]) HP.out (by have := rX.lt; simp; omega) bX.size
  have nR : Hid (w.heap.size < w.heap.size + 1) := Nat.lt_succ_self _
  generalize w.heap.size + 1 = R2 at *
  obtain ⟨a0, a1, a2, a3⟩ := four_st lX
  have BX := Lib.hid bX
  have RX := Lib.hid rX
  have LX := Lib.hid lX
  have TX := Lib.hid (CX0.out _ X OX PX)
  clear bX lX rX OX PX CX0
  go_upto_region 2 with (first
    | (go_at_call 31; refine TX.out.mono ?_; rintro e w2 ⟨ka2, kc2, ta2, tc2, oa2, oc2, rfl, k2, s2, b2⟩; have B2 := Lib.hid b2; have K2 := Lib.hid k2; have S2 := Lib.hid s2; clear b2 k2 s2))
  refine gen_world (fun Z => Below X.heap.size X Z ∧ Lies Z w2.heap.size (rdO y.h (.slice ka2 (len y.k) kc2) (.slice ta2 y.s.toks.length tc2) y.s.at_ (.slice oa2 y.s.opn.length oc2) y.s.wait y.e) ∧ KOn Z (Pm P [w.heap.size, R2, w2.heap.size]) (.slice ka2 (len y.k) kc2) y.k ∧ StOn Z (Pm P [w.heap.size, R2, w2.heap.size]) (.slice ta2 y.s.toks.length tc2) (.slice oa2 y.s.opn.length oc2) y.s ∧ X.heap.size ≤ w2.heap.size) ⟨afterL B2.out (below_one w2 _), Lies.new w2 _, pm_add (KOn.into K2.out (l := [w2.heap.size]) (below_one w2 _) (by simp)), pm_add' (S2.out.into (l := [w2.heap.size]) (below_one w2 _) (by simp)), B2.out.size⟩ ?_
  rintro Z ⟨bZ, yZ, kZ, sZ, hM⟩
  have hM2 : R2 < w2.heap.size := Nat.lt_of_lt_of_le RX.out.lt hM
  have BZ := Lib.hid (afterL BX.out bZ)
  have RZ := Lib.hid (RX.out.below bZ RX.out.lt)
  generalize w2.heap.size = M at *
  have HM2 := Lib.hid hM2
  have pZ := Pm.of (l := [w.heap.size, R2, M]) HP.out (by have := RZ.out.lt; have := yZ.lt; have := nR.out; simp; omega) BZ.out.size
  clear a0 a1 a2 a3 bZ B2 K2 S2 TX RX LX BX hM hM2 HS
  try generalize (Value.agg #[.int .i64 y.h.kind, .int .i64 y.h.form, .string y.h.text, .int .i64 y.h.line, .int .i64 y.h.col, .slice ka2 (len y.k) kc2, .slice ta2 y.s.toks.length tc2, .int .i64 y.s.at_, .slice oa2 y.s.opn.length oc2, .int .i64 y.s.wait, .int .i64 y.e] : Value) = og1
  try generalize (Value.agg #[.slice ta s.toks.length tc, .int .i64 s.at_, .slice oa s.opn.length oc, .int .i64 s.wait] : Value) = og2
  obtain ⟨c0, c1, c2, c3, c4, c5, c6, c7, c8, c9, c10⟩ := eleven yZ
  go_upto_region 3 with fail
  obtain ⟨l8, hl8⟩ : ∃ l8 : List Nv, [(⟨y.h, y.k, .slice ka2 (len y.k) kc2⟩ : Nv)] = l8 := ⟨_, rfl⟩
  have E8 : Hid (foL l8 = oneF y) := by rw [← hl8]; rfl
  have HL8 : Hid (l8.length = 1) := by rw [← hl8]; rfl
  have HO8 : Hid (len (foL l8) = 1) := by rw [← hl8]; rfl
  refine gen_world (fun V => NdP V 0 (Pm P [w.heap.size, R2, M]) (.slice (some ⟨Z.heap.size, 0, none⟩) 1 1) l8 ∧ KOn V (Px (Pm P [w.heap.size, R2, M]) (.slice (some ⟨Z.heap.size, 0, none⟩) 1 1)) (.slice ka2 (len y.k) kc2) y.k ∧ StOn V (Px (Pm P [w.heap.size, R2, M]) (.slice (some ⟨Z.heap.size, 0, none⟩) 1 1)) (.slice ta2 y.s.toks.length tc2) (.slice oa2 y.s.opn.length oc2) y.s ∧ Lies V R2 kRd ∧ Lies V M (rdO y.h (.slice ka2 (len y.k) kc2) (.slice ta2 y.s.toks.length tc2) y.s.at_ (.slice oa2 y.s.opn.length oc2) y.s.wait y.e) ∧ Mv w V (.slice none 0 0) (.slice (some ⟨Z.heap.size, 0, none⟩) 1 1)) ⟨hl8 ▸ NdP.lit (w := Z) (B := 0) (P := (Pm P [w.heap.size, R2, M])) [(⟨y.h, y.k, .slice ka2 (len y.k) kc2⟩ : Nv)] (cs := #[.int .i64 y.h.kind, .int .i64 y.h.form, .string y.h.text, .int .i64 y.h.line, .int .i64 y.h.col, .slice ka2 (len y.k) kc2]) rfl (fun x hx => by rw [List.mem_singleton.1 hx]; exact kZ) (Nat.zero_le _) (one_len _) (pZ _ (Nat.le_refl _)), KOn.lit kZ _ _ _, sZ.lit _ _ _, RZ.out.alloc _, yZ.alloc _, mv_lit BZ.out _ _ _⟩ ?_
  rintro V ⟨nV, kV, sV, rV, yV, mV⟩
  clear c0 c1 c2 c3 c4 c5 c6 c7 c8 c9 c10 RZ BZ kZ sZ pZ yZ hl8
  try generalize (Value.agg #[.int .i64 y.h.kind, .int .i64 y.h.form, .string y.h.text, .int .i64 y.h.line, .int .i64 y.h.col, .slice ka2 (len y.k) kc2] : Value) = og3
  generalize ((.slice (some ⟨Z.heap.size, 0, none⟩) 1 1) : Value) = v1 at *
  have NV := Lib.hid nV
  have KV := Lib.hid kV
  have SV := Lib.hid sV
  have RV := Lib.hid rV
  have YV := Lib.hid yV
  have MV := Lib.hid mV
  clear nV kV sV rV yV mV
  go_loopw [6] (fun u wr => ∃ (l' : List Nv) (z : Rd) (ka1 ta1 oa1 : Option Addr) (kc1 tc1 oc1 f : Nat), NdP wr 0 (Pm P [w.heap.size, R2, M]) u l' ∧ KOn wr (Px (Pm P [w.heap.size, R2, M]) u) (.slice ka1 (len z.k) kc1) z.k ∧ StOn wr (Px (Pm P [w.heap.size, R2, M]) u) (.slice ta1 z.s.toks.length tc1) (.slice oa1 z.s.opn.length oc1) z.s ∧ Lies wr R2 kRd ∧ Lies wr M (rdO z.h (.slice ka1 (len z.k) kc1) (.slice ta1 z.s.toks.length tc1) z.s.at_ (.slice oa1 z.s.opn.length oc1) z.s.wait z.e) ∧ Mv w wr (.slice none 0 0) u ∧ V.heap.size ≤ wr.heap.size ∧ Fits N z.s ∧ (z.e = 0 → l'.length + lf z.s ≤ 6 * N + 3) ∧ l'.length ≤ 6 * N + 4 ∧ (z.e = 0 → lf z.s < f) ∧ rowF A f (foL l') z = x ∧ 1 ≤ l'.length) (fun u _ => 6 * N + 5 - lenOf u)
  case atStart =>
    obtain ⟨f, h1, h2⟩ := HCO.out
    have := HL8.out
    exact ⟨l8, y, ka2, ta2, oa2, kc2, tc2, oc2, f, NV.out, KV.out, SV.out, RV.out, YV.out, MV.out, Nat.le_refl _, HF.out, fun h => by have := HLF.out h; omega, by omega, fun _ => h1, by rw [E8.out]; exact h2, by omega⟩
  case round =>
    obtain ⟨l', z, ka1, ta1, oa1, kc1, tc1, oc1, f, hn, hk, hs, hr, hy, hm, hsz, hf, hl, hl2, hlt, hx, h1⟩ := hrel
    obtain ⟨va1, vc1, rfl⟩ := (hn.on (by unfold maxLen; omega)).len
    clear HCO NV KV SV RV YV MV HLF E8 HL8 HO8 HF
    have HSZ := Lib.hid hsz
    have HLT := Lib.hid hlt
    have HL := Lib.hid hl
    have HL2 := Lib.hid hl2
    have HF := Lib.hid hf
    have H1 := Lib.hid h1
    have HN2 := Lib.hid hN2
    have PX := Pxm.of (v := .slice va1 (len (foL l')) vc1) (l := [w.heap.size, R2, M]) HP.out (by have := hr.lt; have := hy.lt; have := nR.out; simp; omega) (fun b e => (hn.lt e).2) hm.grown.size
    obtain ⟨c0, c1, c2, c3, c4, c5, c6, c7, c8, c9, c10⟩ := eleven hy
    have RW := Lib.hid hr
    have YW := Lib.hid hy
    have KW := Lib.hid hk
    have NW := Lib.hid hn
    have MW := Lib.hid hm
    have SW := Lib.hid hs
    clear hl hl2 hlt hsz h1 hN2
    by_cases h0 : z.e = 0
    · obtain ⟨f, rfl⟩ : ∃ g, f = g + 1 := ⟨f - 1, by have := HLT.out h0; omega⟩
      unfold rowF at hx
      rw [if_pos h0] at hx
      have x1 : (z.e == 0) = true := beq_iff_eq.2 h0
      have PK := Lib.hid (CP.out _ _ _ z.s wr hs hf)
      have ST := Lib.hid (CS.out (tk z.s))
      have AT := Lib.hid (fun W (h : Below wr.heap.size wr W) => CY.out (Px (Pm P [w.heap.size, R2, M]) (.slice va1 (len (foL l')) vc1)) _ _ z.s W (hs.below h (Nat.le_refl _)) hf (fun b hb => PX b (Nat.le_trans h.size hb)))
      have HAL1 := Lib.hid (HAL.out z.s)
      have HAN1 := Lib.hid (HAN.out z.s)
      have HF1 := Lib.hid (HAF.out z.s hf)
      have H0 := Lib.hid h0
      clear hn hk hs hr hy hm hf PX CP CS CY HAL HAN HAF h0
      cases hst : startsB (tk z.s) with
      | true =>
        rw [hst] at hx ST
        rw [if_pos rfl] at hx
        have HX := Lib.hid hx
        generalize A z.s = q at *
        generalize tk z.s = t0 at *
        clear hst hx
        go_upto_region 4 with (first
          | (go_at_call 53; refine PK.out.mono ?_; rintro e w3 ⟨rfl, b3⟩; have BC := Lib.hid b3; have y9 := YW.out.below b3 YW.out.lt; clear c0 c1 c2 c3 c4 c5 c6 c7 c8 c9 c10 b3; obtain ⟨c0, c1, c2, c3, c4, c5, c6, c7, c8, c9, c10⟩ := eleven y9; clear y9)
          | (go_at_call 52; refine (ST.out _).mono ?_; rintro e w4 ⟨rfl, b4⟩; have BC := Lib.hid (afterL BC.out b4); have y9 := YW.out.below BC.out YW.out.lt; clear c0 c1 c2 c3 c4 c5 c6 c7 c8 c9 c10 b4; obtain ⟨c0, c1, c2, c3, c4, c5, c6, c7, c8, c9, c10⟩ := eleven y9; clear y9))
        go_upto_region 5 with (first
          | (go_at_call 31; refine (AT.out _ BC.out).mono ?_; rintro e w6 ⟨ka6, kc6, ta6, tc6, oa6, oc6, rfl, k6, s6, b6⟩; have B6 := Lib.hid (afterL BC.out b6); have K6 := Lib.hid k6; have S6 := Lib.hid s6; have y6 := YW.out.below B6.out YW.out.lt; clear b6 k6 s6; clear c0 c1 c2 c3 c4 c5 c6 c7 c8 c9 c10; obtain ⟨c0, c1, c2, c3, c4, c5, c6, c7, c8, c9, c10⟩ := eleven y6; obtain ⟨f0, f1, f2, f3, f4, f5, f6, f7, f8, f9, f10⟩ := free11 y6; have Y6 := Lib.hid y6; clear y6))
        refine gen_world (fun U => NdP U 0 (Pm P [w.heap.size, R2, M]) (.slice va1 (len (foL l')) vc1) l' ∧ KOn U (Px (Pm P [w.heap.size, R2, M]) (.slice va1 (len (foL l')) vc1)) (.slice ka6 (len q.k) kc6) q.k ∧ StOn U (Px (Pm P [w.heap.size, R2, M]) (.slice va1 (len (foL l')) vc1)) (.slice ta6 q.s.toks.length tc6) (.slice oa6 q.s.opn.length oc6) q.s ∧ Lies U R2 kRd ∧ Lies U M (rdO q.h (.slice ka6 (len q.k) kc6) (.slice ta6 q.s.toks.length tc6) q.s.at_ (.slice oa6 q.s.opn.length oc6) q.s.wait q.e) ∧ Mv w U (.slice none 0 0) (.slice va1 (len (foL l')) vc1) ∧ wr.heap.size ≤ U.heap.size) ⟨NdP.set11 (NW.out.below B6.out (Nat.le_refl _)) (fun b h e => h.2 (by rw [e]; simp)) .., KOn.set11 K6.out (fun b h e => h.1.2 (by rw [e]; simp)) .., StOn.set11 S6.out (fun b h e => h.1.2 (by rw [e]; simp)) .., set11_other (RW.out.below B6.out RW.out.lt) (by have := HM2.out; omega) .., set11_lies Y6.out .., (MW.out.after B6.out).set11 (by have := HM2.out; have := nR.out; omega) .., Nat.le_trans B6.out.size (Nat.le_of_eq (set11_size ..).symm)⟩ ?_
        rintro U ⟨nU, kU, sU, rU, yU, mU, zU⟩
        clear c0 c1 c2 c3 c4 c5 c6 c7 c8 c9 c10 f0 f1 f2 f3 f4 f5 f6 f7 f8 f9 f10 BC B6 K6 S6 Y6 PK ST AT NW KW SW RW YW MW
        try generalize (Value.agg #[.int .i64 q.h.kind, .int .i64 q.h.form, .string q.h.text, .int .i64 q.h.line, .int .i64 q.h.col, .slice ka6 (len q.k) kc6, .slice ta6 q.s.toks.length tc6, .int .i64 q.s.at_, .slice oa6 q.s.opn.length oc6, .int .i64 q.s.wait, .int .i64 q.e] : Value) = og4
        obtain ⟨c0, c1, c2, c3, c4, c5, c6, c7, c8, c9, c10⟩ := eleven yU
        have NU := Lib.hid nU
        have KU := Lib.hid kU
        have SU := Lib.hid sU
        have YU := Lib.hid yU
        have MU := Lib.hid mU
        have RU := Lib.hid rU
        have ZU := Lib.hid zU
        have HNM := Lib.hid (show (Value.slice va1 (len (foL l')) vc1).ownBlock ≠ some M from fun e => (nU.own _ e).2 (by simp))
        have HNR := Lib.hid (show (Value.slice va1 (len (foL l')) vc1).ownBlock ≠ some R2 from fun e => (nU.own _ e).2 (by simp))
        have HQU : Hid (∀ b, U.heap.size ≤ b → (Pm P [w.heap.size, R2, M]) b) := Pm.of HP.out (by have := rU.lt; have := yU.lt; have := nR.out; simp; omega) mU.grown.size
        clear nU kU sU yU mU rU zU
        go_wp2_with (first
          | (at_builtin; refine append_lit U rfl _ _ rfl 0 (Pm P [w.heap.size, R2, M]) (.slice va1 (len (foL l')) vc1) l' [⟨q.h, q.k, .slice ka6 (len q.k) kc6⟩] rfl NU.out _ _ rfl _ _ rfl rfl (fun x hx => by rw [List.mem_singleton.1 hx]; exact KU.out) (by have := HL2.out; have := HN2.out; simp; omega) (Nat.zero_le _) HQU.out ?_; intro v7 w7 n7 m7; have N7 := Lib.hid n7; have S7 := Lib.hid (m7.st SU.out); have K7 := Lib.hid (m7.kid KU.out); have R7 := Lib.hid (m7.lies RU.out HNR.out); have Y7 := Lib.hid (m7.lies YU.out HNM.out); have M7 := Lib.hid (MU.out.trans m7); have Z7 := Lib.hid (Nat.le_trans ZU.out m7.grown.size); clear n7 m7))
        obtain ⟨va4, vc4, e4⟩ := N7.out.slice
        have HQ : q.e = 0 → lf q.s < lf z.s := fun h => lv_lt (HAL1.out h) (HAN1.out h)
        refine ⟨⟨_, q, ka6, ta6, oa6, kc6, tc6, oc6, f, N7.out, K7.out, S7.out, R7.out, Y7.out, M7.out, Nat.le_trans HSZ.out Z7.out, HF1.out, fun h => ?_, ?_, ?_, ?_, ?_⟩, ?_⟩
        · have := HQ h
          have := HL.out H0.out
          rw [List.length_append, List.length_singleton]
          omega
        · have := HL.out H0.out
          rw [List.length_append, List.length_singleton]
          omega
        · intro h
          have := HQ h
          have := HLT.out H0.out
          omega
        · rw [foL_push]
          exact HX.out
        · rw [List.length_append, List.length_singleton]
          omega
        · rw [e4]
          have := HL.out H0.out
          simp only [lenOf, List.length_append, List.length_singleton, len_foL]
          omega
      | false =>
        rw [hst] at hx ST
        rw [if_neg (by decide)] at hx
        generalize tk z.s = t0 at *
        clear hst AT
        go_upto_region 6 with (first
          | (go_at_call 53; refine PK.out.mono ?_; rintro e w3 ⟨rfl, b3⟩; have BC := Lib.hid b3; have y9 := YW.out.below b3 YW.out.lt; clear c0 c1 c2 c3 c4 c5 c6 c7 c8 c9 c10 b3; obtain ⟨c0, c1, c2, c3, c4, c5, c6, c7, c8, c9, c10⟩ := eleven y9; clear y9)
          | (go_at_call 52; refine (ST.out _).mono ?_; rintro e w4 ⟨rfl, b4⟩; have BC := Lib.hid (afterL BC.out b4); have y9 := YW.out.below BC.out YW.out.lt; clear c0 c1 c2 c3 c4 c5 c6 c7 c8 c9 c10 b4; obtain ⟨c0, c1, c2, c3, c4, c5, c6, c7, c8, c9, c10⟩ := eleven y9; clear y9))
        have KA := Lib.hid ((NW.out.on (by have := HL2.out; have := HN2.out; unfold maxLen; omega)).below BC.out (Nat.le_refl _))
        have RU := RW.out.below BC.out RW.out.lt
        have YU := YW.out.below BC.out YW.out.lt
        have SU := Lib.hid (SW.out.below BC.out (Nat.le_refl _))
        have KU := Lib.hid (KW.out.below BC.out (Nat.le_refl _))
        have MU := Lib.hid (MW.out.after BC.out)
        have R9 := Lib.hid RU
        have Y9 := Lib.hid YU
        clear PK ST NW RW YW SW KW MW BC
        by_cases h2 : 1 < len (foL l')
        · rw [if_pos h2] at hx
          have d1 : decide ((1 : Int) < ((len (foL l') : Nat) : Int)) = true := decide_eq_true (by omega)
          have d2 : decide (1 < len (foL l')) = true := decide_eq_true h2
          obtain ⟨g0, g1, g2, g3, g4, g5, g6, g7, g8, g9, g10⟩ := free11 YU
          have HX := Lib.hid hx
          clear hx h2 RU YU
          go_upto_region 8 with fail
          have q2 := fun b (h : (Pm P [w.heap.size, R2, M]) b) => (show b ≠ M from fun e => h.2 (by rw [e]; simp))
          refine gen_world (fun V => KOn V (Pm P [w.heap.size, R2, M]) (.slice va1 (len (foL l')) vc1) (foL l') ∧ StOn V (Px (Pm P [w.heap.size, R2, M]) (.slice va1 (len (foL l')) vc1)) (.slice ta1 z.s.toks.length tc1) (.slice oa1 z.s.opn.length oc1) z.s ∧ Lies V R2 kRd ∧ Lies V M (rdO (nodeH 39) (.slice va1 (len (foL l')) vc1) (.slice ta1 z.s.toks.length tc1) z.s.at_ (.slice oa1 z.s.opn.length oc1) z.s.wait z.e) ∧ Mv w V (.slice none 0 0) (.slice va1 (len (foL l')) vc1)) ⟨KOn.sett6 KA.out q2 .., StOn.set6 SU.out (fun b h => q2 b h.1) .., (set6_keep _ (by have := HM2.out; omega) ..).trans R9.out, set6_lies Y9.out (nodeH 39) _, mv_set6 MU.out (by have := HM2.out; have := nR.out; omega) ..⟩ ?_
          rintro V ⟨kV, sV, rV, yV, mV⟩
          clear c0 c1 c2 c3 c4 c5 c6 c7 c8 c9 c10 g0 g1 g2 g3 g4 g5 g6 g7 g8 g9 g10 q2 d1 d2 KA SU R9 Y9 MU KU
          obtain ⟨c0, c1, c2, c3, c4, c5, c6, c7, c8, c9, c10⟩ := eleven yV
          unfold kRd at rV
          obtain ⟨f0, f1, f2, f3, f4, f5, f6, f7, f8, f9, f10⟩ := free11 rV
          obtain ⟨e0, e1, e2, e3, e4, e5, e6, e7, e8, e9, e10⟩ := eleven rV
          dsimp only [zeroN] at e0 e1 e2 e3 e4
          dsimp only [nodeH] at c0 c1 c2 c3 c4
          have R9 := Lib.hid rV
          have KA := Lib.hid kV
          have SU := Lib.hid sV
          have MU := Lib.hid mV
          clear kV sV rV yV mV
          go_wp2_with fail
          refine bodyPost_ret (res_rd Try.results34 rfl (set11_lies R9.out (nodeH 39) (.slice va1 (len (foL l')) vc1) (.slice ta1 z.s.toks.length tc1) z.s.at_ (.slice oa1 z.s.opn.length oc1) z.s.wait z.e)) rfl ?_
          rw [← HX.out]
          have e9 := rd_done (x := ⟨nodeH 39, foL l', z.s, z.e⟩) (mv_bel MU.out) (Nat.le_of_lt nR.out) KA.out (SU.out.less (fun b _ q => q.1)) (fun b hb q => ⟨q.1, fun e => q.2 (by rw [e]; simp)⟩)
          rw [H0.out] at e9 ⊢
          exact e9
        · rw [if_neg h2] at hx
          have d1 : decide ((1 : Int) < ((len (foL l') : Nat) : Int)) = false := decide_eq_false (by omega)
          have d2 : decide (1 < len (foL l')) = false := decide_eq_false h2
          have HX := Lib.hid hx
          unfold kRd at RU
          obtain ⟨f0, f1, f2, f3, f4, f5, f6, f7, f8, f9, f10⟩ := free11 RU
          obtain ⟨e0, e1, e2, e3, e4, e5, e6, e7, e8, e9, e10⟩ := eleven RU
          dsimp only [zeroN] at e0 e1 e2 e3 e4
          have R9 := Lib.hid RU
          clear hx h2 RU YU
          go_wp2_with fail
          refine bodyPost_ret (res_rd Try.results34 rfl (set11_lies R9.out z.h (.slice ka1 (len z.k) kc1) (.slice ta1 z.s.toks.length tc1) z.s.at_ (.slice oa1 z.s.opn.length oc1) z.s.wait z.e)) rfl ?_
          rw [← HX.out]
          exact rd_done (mv_bel MU.out) (Nat.le_of_lt nR.out) KU.out SU.out (fun b hb q => ⟨q.1.1, fun e => q.1.2 (by rw [e]; simp)⟩)
    · rw [rowF_err A _ h0] at hx
      have x1 : (z.e == 0) = false := beq_eq_false_iff_ne.2 h0
      have HX := Lib.hid hx
      unfold kRd at hr
      obtain ⟨f0, f1, f2, f3, f4, f5, f6, f7, f8, f9, f10⟩ := free11 hr
      obtain ⟨e0, e1, e2, e3, e4, e5, e6, e7, e8, e9, e10⟩ := eleven hr
      dsimp only [zeroN] at e0 e1 e2 e3 e4
      have R9 := Lib.hid hr
      clear hn hk hs hr hy hm hf PX CP CS CY HAL HAN HAF h0 hx
      go_wp2_with fail
      refine bodyPost_ret (res_rd Try.results34 rfl (set11_lies R9.out z.h (.slice ka1 (len z.k) kc1) (.slice ta1 z.s.toks.length tc1) z.s.at_ (.slice oa1 z.s.opn.length oc1) z.s.wait z.e)) rfl ?_
      rw [← HX.out]
      exact rd_done (mv_bel MW.out) (Nat.le_of_lt nR.out) KW.out SW.out (fun b hb q => ⟨q.1.1, fun e => q.1.2 (by rw [e]; simp)⟩)
end Go.Proofs.Ytmgclgojmckfhaa.Typ
