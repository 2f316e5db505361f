/-
  The document's round, whatever stands behind the bracket. Conditions: what the document's Next and Type do, and sizes that are borne.
-/
import Derived.Test.YtmgclgojmckfhaaZRoa
import Derived.Test.YtmgclgojmckfhaaZRoc
namespace Go.Proofs.Ytmgclgojmckfhaa.Typ
open Tks Tre Go.RowKit
open Lay (Sx StV Fit9 nextS NextOut tkV9 IntArg)
set_option linter.unusedSimpArgs false
set_option linter.unusedVariables false

theorem round_any {N : Nat} (hN : N ≤ 1099511627776) (R : NextOn 59) (T : Sx → Rd) (hTF : ∀ s, Fits N s → Fits N (T s).s) (hTL : ∀ s, Lv s (T s)) (deep deep1 : Int) (hd : IntKind.i64.wrap (deep - 1) = deep1) (CTY : ∀ (P : Nat → Prop) (tv ov : Value) (s : Sx) (W : World), StOn W P tv ov s → Fits N s → (∀ b, W.heap.size ≤ b → P b) → Calls Try.prog 17 #[stV tv s.at_ ov s.wait, .int .i64 deep1] W (RdOut (T s) P W.heap.size W)) (P : Nat → Prop) (v : Value) (l : List Nv) (tv ov : Value) (s : Sx) (w : World) (hr : NdP w 0 P v l) (hs : StOn w (Px P v) tv ov s) (hf : Fits N s) (hP : ∀ b, w.heap.size ≤ b → P b) (K : Nat) (hK : K ≤ 1099511627776) (hl : l.length + 2 * lf s + 4 ≤ K) :
    Calls Try.prog 55 #[v, stV tv s.at_ ov s.wait, .int .i64 deep] w (RdOutG (roundR T (foL l) s) P v.ownBlock w) := by
  cases h1 : isR s 15 [41] with
  | true => exact round_a hN R T deep deep1 P v l tv ov s w hr hs hf hP K hK hl (.inl h1)
  | false =>
    cases h2 : isR s 15 [44] with
    | true => exact round_a hN R T deep deep1 P v l tv ov s w hr hs hf hP K hK hl (.inr ⟨h1, h2⟩)
    | false =>
      cases h3 : isR s 10 [45, 62] with
      | true => exact round_b hN R T deep deep1 P v l tv ov s w hr hs hf hP K hK hl h1 h2 h3
      | false => exact round_c hN R T hTF hTL deep deep1 hd CTY P v l tv ov s w hr hs hf hP K hK hl h1 h2 h3
end Go.Proofs.Ytmgclgojmckfhaa.Typ
/-
  The document's atom: what is no bracket, or no atom. Conditions: what the document's Next and Type do, and sizes that are borne.
-/
namespace Go.Proofs.Ytmgclgojmckfhaa.Typ
open Tks Tre Go.RowKit
open Lay (Sx StV Fit9 nextS NextOut tkV9 IntArg)
set_option linter.unusedSimpArgs false
set_option linter.unusedVariables false

theorem pm_add {w : World} {P : Nat → Prop} {a b c : Nat} {v : Value} {k : Fo} (h : KOn w (Pm (Pm P [a, b]) [c]) v k) : KOn w (Pm P [a, b, c]) v k :=
  h.kept (Nat.le_refl _) (fun d _ q => ⟨rfl, q.1.1, fun e => by
    have h1 := q.1.2
    have h2 := q.2
    simp only [List.mem_cons, List.not_mem_nil, or_false, not_or] at e h1 h2
    omega⟩)
theorem pm_add' {w : World} {P : Nat → Prop} {a b c : Nat} {tv ov : Value} {s : Sx} (h : StOn w (Pm (Pm P [a, b]) [c]) tv ov s) : StOn w (Pm P [a, b, c]) tv ov s :=
  h.less (fun d _ q => ⟨q.1.1, fun e => by
    have h1 := q.1.2
    have h2 := q.2
    simp only [List.mem_cons, List.not_mem_nil, or_false, not_or] at e h1 h2
    omega⟩)
theorem take_ok {s : Sx} (h : (takeR s).e = 0) : takeR s = ⟨leafH (tk s), .nil, nx s, 0⟩ := if_pos (take_e h)
set_option maxRecDepth 1000000 in
set_option maxHeartbeats 400000 in
theorem atom_a {N : Nat} (hN : N ≤ 1099511627776) (hN2 : 12 * N + 20 ≤ 1099511627776) (R : NextOn 59) (T : Sx → Rd) (deep : Int) (P : Nat → Prop) (tv ov : Value) (s : Sx) (w : World) (hs : StOn w P tv ov s) (hf : Fits N s) (hP : ∀ b, w.heap.size ≤ b → P b) (h0 : (takeR s).e ≠ 0) :
    Calls Try.prog 31 #[stV tv s.at_ ov s.wait, .int .i64 deep] w (RdOut (atomR T s) P w.heap.size w) := by
  obtain ⟨ta, tc, oa, oc, rfl, rfl⟩ := hs.len
  have CT := Lib.hid (fun Q W h h2 => take_any hN R Q (.slice ta s.toks.length tc) (.slice oa s.opn.length oc) s W h hf h2)
  unfold RdOut rdV at CT
  have HX0 : Hid (atomR T s = takeR s) := if_neg h0
  unfold stV at CT
  unfold stV
  have HS := Lib.hid hs
  have HP := Lib.hid hP
  have HF := Lib.hid (fits_take hf)
  have x1 : ((takeR s).e != 0) = true := bne_iff_ne.2 h0
  generalize hXX : atomR T s = x at *
  generalize takeR s = y at *
  clear hs hf hP R h0
  go_enter Try.func31, Try.ntmps31
  go_upto_region 1 with fail
  refine gen_world (fun X => Below w.heap.size w X ∧ Lies X w.heap.size (stB (.slice ta s.toks.length tc) s.at_ (.slice oa s.opn.length oc) s.wait) ∧ Lies X (w.heap.size + 1) kRd) ⟨below_two' w _ _, (two_lie w _ _).1, (two_lie w _ _).2⟩ ?_
  rintro X ⟨bX, lX, rX⟩
  have OX := HS.out.into (l := [w.heap.size, w.heap.size + 1]) bX (by simp)
  have PX := Pm.of (l := [w.heap.size, w.heap.size + 1]) HP.out (by have := rX.lt; simp; omega) bX.size
  have nR : Hid (w.heap.size < w.heap.size + 1) := Nat.lt_succ_self _
  generalize w.heap.size + 1 = R2 at *
  obtain ⟨a0, a1, a2, a3⟩ := four_st lX
  have BX := Lib.hid bX
  have RX := Lib.hid rX
  have LX := Lib.hid lX
  have TX := Lib.hid (CT.out _ X OX PX)
  clear bX lX rX OX PX CT
  go_upto_region 2 with (first
    | (go_at_call 39; refine TX.out.mono ?_; rintro e w2 ⟨ka2, kc2, ta2, tc2, oa2, oc2, rfl, k2, s2, b2⟩; have B2 := Lib.hid b2; have K2 := Lib.hid k2; have S2 := Lib.hid s2; clear b2 k2 s2))
  refine gen_world (fun Z => Below X.heap.size X Z ∧ Lies Z w2.heap.size (rdO y.h (.slice ka2 (len y.k) kc2) (.slice ta2 y.s.toks.length tc2) y.s.at_ (.slice oa2 y.s.opn.length oc2) y.s.wait y.e) ∧ KOn Z (Pm P [w.heap.size, R2, w2.heap.size]) (.slice ka2 (len y.k) kc2) y.k ∧ StOn Z (Pm P [w.heap.size, R2, w2.heap.size]) (.slice ta2 y.s.toks.length tc2) (.slice oa2 y.s.opn.length oc2) y.s ∧ X.heap.size ≤ w2.heap.size) ⟨afterL B2.out (below_one w2 _), Lies.new w2 _, pm_add (KOn.into K2.out (l := [w2.heap.size]) (below_one w2 _) (by simp)), pm_add' (S2.out.into (l := [w2.heap.size]) (below_one w2 _) (by simp)), B2.out.size⟩ ?_
  rintro Z ⟨bZ, yZ, kZ, sZ, hM⟩
  have hM2 : R2 < w2.heap.size := Nat.lt_of_lt_of_le RX.out.lt hM
  have BZ := Lib.hid (afterL BX.out bZ)
  have rZ := RX.out.below bZ RX.out.lt
  have lZ := LX.out.below bZ LX.out.lt
  generalize w2.heap.size = M at *
  have HM2 := Lib.hid hM2
  have oZ := HS.out.into (l := [w.heap.size, R2, M]) BZ.out (by have := nR.out; simp; omega)
  have pZ := Pm.of (l := [w.heap.size, R2, M]) HP.out (by have := lZ.lt; have := rZ.lt; have := yZ.lt; simp; omega) BZ.out.size
  clear a0 a1 a2 a3 bZ B2 K2 S2 TX RX LX BX hM hM2
  obtain ⟨c0, c1, c2, c3, c4, c5, c6, c7, c8, c9, c10⟩ := eleven yZ
  obtain ⟨a0, a1, a2, a3⟩ := four_st lZ
  have LZ := Lib.hid lZ
  have RZ := Lib.hid rZ
  have YZ := Lib.hid yZ
  have KZ := Lib.hid kZ
  have SZ := Lib.hid sZ
  have OZ := Lib.hid oZ
  have PZ := Lib.hid pZ
  have BC := Lib.hid (Below.refl Z.heap.size Z)
  clear lZ rZ yZ kZ sZ oZ pZ
  have HX : Hid (x = y) := HX0.out
  have r9 := RZ.out
  unfold kRd at r9
  obtain ⟨f0, f1, f2, f3, f4, f5, f6, f7, f8, f9, f10⟩ := free11 r9
  obtain ⟨e0, e1, e2, e3, e4, e5, e6, e7, e8, e9, e10⟩ := eleven r9
  dsimp only [zeroN] at e0 e1 e2 e3 e4
  have R9 := Lib.hid r9
  clear r9 HX0
  go_wp2_with fail
  refine bodyPost_ret (res_rd Try.results31 rfl (set11_lies R9.out y.h (.slice ka2 (len y.k) kc2) (.slice ta2 y.s.toks.length tc2) y.s.at_ (.slice oa2 y.s.opn.length oc2) y.s.wait y.e)) rfl ?_
  rw [HX.out]
  exact rd_done BZ.out (Nat.le_of_lt nR.out) KZ.out SZ.out (fun b hb q => ⟨q.1, fun e => q.2 (by rw [e]; simp)⟩)
set_option maxRecDepth 1000000 in
set_option maxHeartbeats 400000 in
theorem atom_b {N : Nat} (hN : N ≤ 1099511627776) (hN2 : 12 * N + 20 ≤ 1099511627776) (R : NextOn 59) (T : Sx → Rd) (deep : Int) (P : Nat → Prop) (tv ov : Value) (s : Sx) (w : World) (hs : StOn w P tv ov s) (hf : Fits N s) (hP : ∀ b, w.heap.size ≤ b → P b) (h0 : (takeR s).e = 0) (h1 : startsB (tk s) = false) :
    Calls Try.prog 31 #[stV tv s.at_ ov s.wait, .int .i64 deep] w (RdOut (atomR T s) P w.heap.size w) := by
  obtain ⟨ta, tc, oa, oc, rfl, rfl⟩ := hs.len
  have CT := Lib.hid (fun Q W h h2 => take_any hN R Q (.slice ta s.toks.length tc) (.slice oa s.opn.length oc) s W h hf h2)
  unfold RdOut rdV at CT
  have HX0 : Hid (atomR T s = badR s) := by
    unfold Hid atomR
    rw [if_pos h0, if_neg (by rw [h1]; decide)]
  have CB := Lib.hid (fun Q W h h2 => bad_any hN R Q (.slice ta s.toks.length tc) (.slice oa s.opn.length oc) s W h hf h2)
  unfold RdOut rdV at CB
  have CPK := Lib.hid (fun Q W h => peek_any hN R Q (.slice ta s.toks.length tc) (.slice oa s.opn.length oc) s W h hf)
  have CS := Lib.hid (fun W => starts_any (tk s) W)
  rw [h1] at CS
  unfold stV tkV9 at CPK
  unfold stV at CB
  unfold tkV9 at CS
  generalize tk s = t0 at *
  unfold stV at CT
  unfold stV
  have HS := Lib.hid hs
  have HP := Lib.hid hP
  have HF := Lib.hid (fits_take hf)
  have x1 : ((takeR s).e != 0) = false := by rw [bne, beq_iff_eq.2 h0]; rfl
  generalize hXX : atomR T s = x at *
  generalize takeR s = y at *
  clear hs hf hP R h0 h1
  go_enter Try.func31, Try.ntmps31
  go_upto_region 1 with fail
  refine gen_world (fun X => Below w.heap.size w X ∧ Lies X w.heap.size (stB (.slice ta s.toks.length tc) s.at_ (.slice oa s.opn.length oc) s.wait) ∧ Lies X (w.heap.size + 1) kRd) ⟨below_two' w _ _, (two_lie w _ _).1, (two_lie w _ _).2⟩ ?_
  rintro X ⟨bX, lX, rX⟩
  have OX := HS.out.into (l := [w.heap.size, w.heap.size + 1]) bX (by simp)
  have PX := Pm.of (l := [w.heap.size, w.heap.size + 1]) HP.out (by have := rX.lt; simp; omega) bX.size
  have nR : Hid (w.heap.size < w.heap.size + 1) := Nat.lt_succ_self _
  generalize w.heap.size + 1 = R2 at *
  obtain ⟨a0, a1, a2, a3⟩ := four_st lX
  have BX := Lib.hid bX
  have RX := Lib.hid rX
  have LX := Lib.hid lX
  have TX := Lib.hid (CT.out _ X OX PX)
  clear bX lX rX OX PX CT
  go_upto_region 2 with (first
    | (go_at_call 39; refine TX.out.mono ?_; rintro e w2 ⟨ka2, kc2, ta2, tc2, oa2, oc2, rfl, k2, s2, b2⟩; have B2 := Lib.hid b2; have K2 := Lib.hid k2; have S2 := Lib.hid s2; clear b2 k2 s2))
  refine gen_world (fun Z => Below X.heap.size X Z ∧ Lies Z w2.heap.size (rdO y.h (.slice ka2 (len y.k) kc2) (.slice ta2 y.s.toks.length tc2) y.s.at_ (.slice oa2 y.s.opn.length oc2) y.s.wait y.e) ∧ KOn Z (Pm P [w.heap.size, R2, w2.heap.size]) (.slice ka2 (len y.k) kc2) y.k ∧ StOn Z (Pm P [w.heap.size, R2, w2.heap.size]) (.slice ta2 y.s.toks.length tc2) (.slice oa2 y.s.opn.length oc2) y.s ∧ X.heap.size ≤ w2.heap.size) ⟨afterL B2.out (below_one w2 _), Lies.new w2 _, pm_add (KOn.into K2.out (l := [w2.heap.size]) (below_one w2 _) (by simp)), pm_add' (S2.out.into (l := [w2.heap.size]) (below_one w2 _) (by simp)), B2.out.size⟩ ?_
  rintro Z ⟨bZ, yZ, kZ, sZ, hM⟩
  have hM2 : R2 < w2.heap.size := Nat.lt_of_lt_of_le RX.out.lt hM
  have BZ := Lib.hid (afterL BX.out bZ)
  have rZ := RX.out.below bZ RX.out.lt
  have lZ := LX.out.below bZ LX.out.lt
  generalize w2.heap.size = M at *
  have HM2 := Lib.hid hM2
  have oZ := HS.out.into (l := [w.heap.size, R2, M]) BZ.out (by have := nR.out; simp; omega)
  have pZ := Pm.of (l := [w.heap.size, R2, M]) HP.out (by have := lZ.lt; have := rZ.lt; have := yZ.lt; simp; omega) BZ.out.size
  clear a0 a1 a2 a3 bZ B2 K2 S2 TX RX LX BX hM hM2
  obtain ⟨c0, c1, c2, c3, c4, c5, c6, c7, c8, c9, c10⟩ := eleven yZ
  obtain ⟨a0, a1, a2, a3⟩ := four_st lZ
  have CP := Lib.hid (fun W (h : Below Z.heap.size Z W) => CPK.out _ W (oZ.below h (Nat.le_refl _)))
  have CBZ := Lib.hid (fun W (h : Below Z.heap.size Z W) => CB.out _ W (oZ.below h (Nat.le_refl _)) (fun b hb => pZ b (Nat.le_trans h.size hb)))
  have LZ := Lib.hid lZ
  have RZ := Lib.hid rZ
  have YZ := Lib.hid yZ
  have KZ := Lib.hid kZ
  have SZ := Lib.hid sZ
  have OZ := Lib.hid oZ
  have PZ := Lib.hid pZ
  have BC := Lib.hid (Below.refl Z.heap.size Z)
  clear lZ rZ yZ kZ sZ oZ pZ
  generalize badR s = z at *
  have HX : Hid (x = z) := HX0.out
  clear HX0 CPK CB
  go_wp2_with (first
    | (go_at_call 53; refine (CP.out _ BC.out).mono ?_; rintro e w3 ⟨rfl, b3⟩; have BC := Lib.hid (afterL BC.out b3); clear b3; have l9 := LZ.out.below BC.out LZ.out.lt; have y9 := YZ.out.below BC.out YZ.out.lt; clear a0 a1 a2 a3 c0 c1 c2 c3 c4 c5 c6 c7 c8 c9 c10; obtain ⟨a0, a1, a2, a3⟩ := four_st l9; obtain ⟨c0, c1, c2, c3, c4, c5, c6, c7, c8, c9, c10⟩ := eleven y9; clear l9 y9)
    | (go_at_call 52; refine (CS.out _).mono ?_; rintro e w4 ⟨rfl, b4⟩; have BC := Lib.hid (afterL BC.out b4); clear b4; have l9 := LZ.out.below BC.out LZ.out.lt; have y9 := YZ.out.below BC.out YZ.out.lt; clear a0 a1 a2 a3 c0 c1 c2 c3 c4 c5 c6 c7 c8 c9 c10; obtain ⟨a0, a1, a2, a3⟩ := four_st l9; obtain ⟨c0, c1, c2, c3, c4, c5, c6, c7, c8, c9, c10⟩ := eleven y9; clear l9 y9)
    | (go_at_call 54; refine (CBZ.out _ BC.out).mono ?_; rintro e w5 ⟨ka5, kc5, ta5, tc5, oa5, oc5, rfl, k5, s5, b5⟩; have BC := Lib.hid (afterL BC.out b5); have K5 := Lib.hid k5; have S5 := Lib.hid s5; clear b5 k5 s5; have r9 := RZ.out.below BC.out RZ.out.lt; unfold kRd at r9; obtain ⟨f0, f1, f2, f3, f4, f5, f6, f7, f8, f9, f10⟩ := free11 r9; obtain ⟨e0, e1, e2, e3, e4, e5, e6, e7, e8, e9, e10⟩ := eleven r9; dsimp only [zeroN] at e0 e1 e2 e3 e4; have R9 := Lib.hid r9; clear r9))
  refine bodyPost_ret (res_rd Try.results31 rfl (set11_lies R9.out z.h (.slice ka5 (len z.k) kc5) (.slice ta5 z.s.toks.length tc5) z.s.at_ (.slice oa5 z.s.opn.length oc5) z.s.wait z.e)) rfl ?_
  rw [HX.out]
  exact rd_done (afterL BZ.out BC.out) (Nat.le_of_lt nR.out) K5.out S5.out (fun b hb q => ⟨q.1, fun e => q.2 (by rw [e]; simp)⟩)
set_option maxRecDepth 1000000 in
set_option maxHeartbeats 400000 in
theorem atom_d {N : Nat} (hN : N ≤ 1099511627776) (hN2 : 12 * N + 20 ≤ 1099511627776) (R : NextOn 59) (T : Sx → Rd) (deep : Int) (P : Nat → Prop) (tv ov : Value) (s : Sx) (w : World) (hs : StOn w P tv ov s) (hf : Fits N s) (hP : ∀ b, w.heap.size ≤ b → P b) (h0 : (takeR s).e = 0) (h1 : startsB (tk s) = true) (h2 : (tk s).kind ≠ 15) :
    Calls Try.prog 31 #[stV tv s.at_ ov s.wait, .int .i64 deep] w (RdOut (atomR T s) P w.heap.size w) := by
  obtain ⟨ta, tc, oa, oc, rfl, rfl⟩ := hs.len
  have CT := Lib.hid (fun Q W h h2 => take_any hN R Q (.slice ta s.toks.length tc) (.slice oa s.opn.length oc) s W h hf h2)
  unfold RdOut rdV at CT
  have HX0 : Hid (atomR T s = takeR s) := by
    unfold Hid atomR
    rw [if_pos h0, if_pos h1, if_neg (fun q => h2 q.1), if_neg (fun q => h2 q.1)]
  have CPK := Lib.hid (fun Q W h => peek_any hN R Q (.slice ta s.toks.length tc) (.slice oa s.opn.length oc) s W h hf)
  have CS := Lib.hid (fun W => starts_any (tk s) W)
  rw [h1] at CS
  unfold stV tkV9 at CPK
  unfold tkV9 at CS
  have HFM : Hid (((takeR s).h.form == 15) = false) := by
    rw [take_ok h0]
    exact beq_eq_false_iff_ne.2 h2
  generalize tk s = t0 at *
  unfold stV at CT
  unfold stV
  have HS := Lib.hid hs
  have HP := Lib.hid hP
  have HF := Lib.hid (fits_take hf)
  have x1 : ((takeR s).e != 0) = false := by rw [bne, beq_iff_eq.2 h0]; rfl
  generalize hXX : atomR T s = x at *
  generalize takeR s = y at *
  clear hs hf hP R h0 h1 h2
  go_enter Try.func31, Try.ntmps31
  go_upto_region 1 with fail
  refine gen_world (fun X => Below w.heap.size w X ∧ Lies X w.heap.size (stB (.slice ta s.toks.length tc) s.at_ (.slice oa s.opn.length oc) s.wait) ∧ Lies X (w.heap.size + 1) kRd) ⟨below_two' w _ _, (two_lie w _ _).1, (two_lie w _ _).2⟩ ?_
  rintro X ⟨bX, lX, rX⟩
  have OX := HS.out.into (l := [w.heap.size, w.heap.size + 1]) bX (by simp)
  have PX := Pm.of (l := [w.heap.size, w.heap.size + 1]) HP.out (by have := rX.lt; simp; omega) bX.size
  have nR : Hid (w.heap.size < w.heap.size + 1) := Nat.lt_succ_self _
  generalize w.heap.size + 1 = R2 at *
  obtain ⟨a0, a1, a2, a3⟩ := four_st lX
  have BX := Lib.hid bX
  have RX := Lib.hid rX
  have LX := Lib.hid lX
  have TX := Lib.hid (CT.out _ X OX PX)
  clear bX lX rX OX PX CT
  go_upto_region 2 with (first
    | (go_at_call 39; refine TX.out.mono ?_; rintro e w2 ⟨ka2, kc2, ta2, tc2, oa2, oc2, rfl, k2, s2, b2⟩; have B2 := Lib.hid b2; have K2 := Lib.hid k2; have S2 := Lib.hid s2; clear b2 k2 s2))
  refine gen_world (fun Z => Below X.heap.size X Z ∧ Lies Z w2.heap.size (rdO y.h (.slice ka2 (len y.k) kc2) (.slice ta2 y.s.toks.length tc2) y.s.at_ (.slice oa2 y.s.opn.length oc2) y.s.wait y.e) ∧ KOn Z (Pm P [w.heap.size, R2, w2.heap.size]) (.slice ka2 (len y.k) kc2) y.k ∧ StOn Z (Pm P [w.heap.size, R2, w2.heap.size]) (.slice ta2 y.s.toks.length tc2) (.slice oa2 y.s.opn.length oc2) y.s ∧ X.heap.size ≤ w2.heap.size) ⟨afterL B2.out (below_one w2 _), Lies.new w2 _, pm_add (KOn.into K2.out (l := [w2.heap.size]) (below_one w2 _) (by simp)), pm_add' (S2.out.into (l := [w2.heap.size]) (below_one w2 _) (by simp)), B2.out.size⟩ ?_
  rintro Z ⟨bZ, yZ, kZ, sZ, hM⟩
  have hM2 : R2 < w2.heap.size := Nat.lt_of_lt_of_le RX.out.lt hM
  have BZ := Lib.hid (afterL BX.out bZ)
  have rZ := RX.out.below bZ RX.out.lt
  have lZ := LX.out.below bZ LX.out.lt
  generalize w2.heap.size = M at *
  have HM2 := Lib.hid hM2
  have oZ := HS.out.into (l := [w.heap.size, R2, M]) BZ.out (by have := nR.out; simp; omega)
  have pZ := Pm.of (l := [w.heap.size, R2, M]) HP.out (by have := lZ.lt; have := rZ.lt; have := yZ.lt; simp; omega) BZ.out.size
  clear a0 a1 a2 a3 bZ B2 K2 S2 TX RX LX BX hM hM2
  obtain ⟨c0, c1, c2, c3, c4, c5, c6, c7, c8, c9, c10⟩ := eleven yZ
  obtain ⟨a0, a1, a2, a3⟩ := four_st lZ
  have CP := Lib.hid (fun W (h : Below Z.heap.size Z W) => CPK.out _ W (oZ.below h (Nat.le_refl _)))
  have LZ := Lib.hid lZ
  have RZ := Lib.hid rZ
  have YZ := Lib.hid yZ
  have KZ := Lib.hid kZ
  have SZ := Lib.hid sZ
  have OZ := Lib.hid oZ
  have PZ := Lib.hid pZ
  have BC := Lib.hid (Below.refl Z.heap.size Z)
  clear lZ rZ yZ kZ sZ oZ pZ
  have HX : Hid (x = y) := HX0.out
  clear HX0 CPK
  have three : ((y.h.text.toList == [40]) = true ∧ (y.h.text.toList == [91]) = false) ∨ ((y.h.text.toList == [40]) = false ∧ (y.h.text.toList == [91]) = true) ∨ ((y.h.text.toList == [40]) = false ∧ (y.h.text.toList == [91]) = false) := by
    by_cases q : y.h.text.toList = [40]
    · rw [q]
      exact .inl ⟨rfl, rfl⟩
    · by_cases q2 : y.h.text.toList = [91]
      · rw [q2]
        exact .inr (.inl ⟨rfl, rfl⟩)
      · exact .inr (.inr ⟨beq_eq_false_iff_ne.2 q, beq_eq_false_iff_ne.2 q2⟩)
  rcases three with h9 | h9 | h9
  · have y1 : (y.h.text.toList == [40]) = true := h9.1
    have y2 : (y.h.text.toList == [91]) = false := h9.2
    have y3 : (y.h.form == 15) = false := HFM.out
    have y4 : (y.h.form != 15) = true := by rw [bne, y3]; rfl
    have y5 : (y.h.text.toList != [91]) = true := by rw [bne, y2]; rfl
    have r9 := RZ.out
    clear HFM h9
    go_wp2_with (first
      | (go_at_call 53; refine (CP.out _ BC.out).mono ?_; rintro e w3 ⟨rfl, b3⟩; have BC := Lib.hid (afterL BC.out b3); clear b3; have l9 := LZ.out.below BC.out LZ.out.lt; have y9 := YZ.out.below BC.out YZ.out.lt; clear a0 a1 a2 a3 c0 c1 c2 c3 c4 c5 c6 c7 c8 c9 c10; obtain ⟨a0, a1, a2, a3⟩ := four_st l9; obtain ⟨c0, c1, c2, c3, c4, c5, c6, c7, c8, c9, c10⟩ := eleven y9; clear l9 y9)
      | (go_at_call 52; refine (CS.out _).mono ?_; rintro e w4 ⟨rfl, b4⟩; have BC := Lib.hid (afterL BC.out b4); clear b4; clear r9; have r9 := RZ.out.below BC.out RZ.out.lt; unfold kRd at r9; obtain ⟨f0, f1, f2, f3, f4, f5, f6, f7, f8, f9, f10⟩ := free11 r9; obtain ⟨e0, e1, e2, e3, e4, e5, e6, e7, e8, e9, e10⟩ := eleven r9; dsimp only [zeroN] at e0 e1 e2 e3 e4; have R9 := Lib.hid r9; clear r9; have l9 := LZ.out.below BC.out LZ.out.lt; have y9 := YZ.out.below BC.out YZ.out.lt; clear a0 a1 a2 a3 c0 c1 c2 c3 c4 c5 c6 c7 c8 c9 c10; obtain ⟨a0, a1, a2, a3⟩ := four_st l9; obtain ⟨c0, c1, c2, c3, c4, c5, c6, c7, c8, c9, c10⟩ := eleven y9; clear l9 y9))
    refine bodyPost_ret (res_rd Try.results31 rfl (set11_lies R9.out y.h (.slice ka2 (len y.k) kc2) (.slice ta2 y.s.toks.length tc2) y.s.at_ (.slice oa2 y.s.opn.length oc2) y.s.wait y.e)) rfl ?_
    rw [HX.out]
    exact rd_done (afterL BZ.out BC.out) (Nat.le_of_lt nR.out) (KZ.out.below BC.out (Nat.le_refl _)) (SZ.out.below BC.out (Nat.le_refl _)) (fun b hb q => ⟨q.1, fun e => q.2 (by rw [e]; simp)⟩)
  · have y1 : (y.h.text.toList == [40]) = false := h9.1
    have y2 : (y.h.text.toList == [91]) = true := h9.2
    have y3 : (y.h.form == 15) = false := HFM.out
    have y4 : (y.h.form != 15) = true := by rw [bne, y3]; rfl
    have y5 : (y.h.text.toList != [91]) = false := by rw [bne, y2]; rfl
    have r9 := RZ.out
    clear HFM h9
    go_wp2_with (first
      | (go_at_call 53; refine (CP.out _ BC.out).mono ?_; rintro e w3 ⟨rfl, b3⟩; have BC := Lib.hid (afterL BC.out b3); clear b3; have l9 := LZ.out.below BC.out LZ.out.lt; have y9 := YZ.out.below BC.out YZ.out.lt; clear a0 a1 a2 a3 c0 c1 c2 c3 c4 c5 c6 c7 c8 c9 c10; obtain ⟨a0, a1, a2, a3⟩ := four_st l9; obtain ⟨c0, c1, c2, c3, c4, c5, c6, c7, c8, c9, c10⟩ := eleven y9; clear l9 y9)
      | (go_at_call 52; refine (CS.out _).mono ?_; rintro e w4 ⟨rfl, b4⟩; have BC := Lib.hid (afterL BC.out b4); clear b4; clear r9; have r9 := RZ.out.below BC.out RZ.out.lt; unfold kRd at r9; obtain ⟨f0, f1, f2, f3, f4, f5, f6, f7, f8, f9, f10⟩ := free11 r9; obtain ⟨e0, e1, e2, e3, e4, e5, e6, e7, e8, e9, e10⟩ := eleven r9; dsimp only [zeroN] at e0 e1 e2 e3 e4; have R9 := Lib.hid r9; clear r9; have l9 := LZ.out.below BC.out LZ.out.lt; have y9 := YZ.out.below BC.out YZ.out.lt; clear a0 a1 a2 a3 c0 c1 c2 c3 c4 c5 c6 c7 c8 c9 c10; obtain ⟨a0, a1, a2, a3⟩ := four_st l9; obtain ⟨c0, c1, c2, c3, c4, c5, c6, c7, c8, c9, c10⟩ := eleven y9; clear l9 y9))
    refine bodyPost_ret (res_rd Try.results31 rfl (set11_lies R9.out y.h (.slice ka2 (len y.k) kc2) (.slice ta2 y.s.toks.length tc2) y.s.at_ (.slice oa2 y.s.opn.length oc2) y.s.wait y.e)) rfl ?_
    rw [HX.out]
    exact rd_done (afterL BZ.out BC.out) (Nat.le_of_lt nR.out) (KZ.out.below BC.out (Nat.le_refl _)) (SZ.out.below BC.out (Nat.le_refl _)) (fun b hb q => ⟨q.1, fun e => q.2 (by rw [e]; simp)⟩)
  · have y1 : (y.h.text.toList == [40]) = false := h9.1
    have y2 : (y.h.text.toList == [91]) = false := h9.2
    have y3 : (y.h.form == 15) = false := HFM.out
    have y4 : (y.h.form != 15) = true := by rw [bne, y3]; rfl
    have y5 : (y.h.text.toList != [91]) = true := by rw [bne, y2]; rfl
    have r9 := RZ.out
    clear HFM h9
    go_wp2_with (first
      | (go_at_call 53; refine (CP.out _ BC.out).mono ?_; rintro e w3 ⟨rfl, b3⟩; have BC := Lib.hid (afterL BC.out b3); clear b3; have l9 := LZ.out.below BC.out LZ.out.lt; have y9 := YZ.out.below BC.out YZ.out.lt; clear a0 a1 a2 a3 c0 c1 c2 c3 c4 c5 c6 c7 c8 c9 c10; obtain ⟨a0, a1, a2, a3⟩ := four_st l9; obtain ⟨c0, c1, c2, c3, c4, c5, c6, c7, c8, c9, c10⟩ := eleven y9; clear l9 y9)
      | (go_at_call 52; refine (CS.out _).mono ?_; rintro e w4 ⟨rfl, b4⟩; have BC := Lib.hid (afterL BC.out b4); clear b4; clear r9; have r9 := RZ.out.below BC.out RZ.out.lt; unfold kRd at r9; obtain ⟨f0, f1, f2, f3, f4, f5, f6, f7, f8, f9, f10⟩ := free11 r9; obtain ⟨e0, e1, e2, e3, e4, e5, e6, e7, e8, e9, e10⟩ := eleven r9; dsimp only [zeroN] at e0 e1 e2 e3 e4; have R9 := Lib.hid r9; clear r9; have l9 := LZ.out.below BC.out LZ.out.lt; have y9 := YZ.out.below BC.out YZ.out.lt; clear a0 a1 a2 a3 c0 c1 c2 c3 c4 c5 c6 c7 c8 c9 c10; obtain ⟨a0, a1, a2, a3⟩ := four_st l9; obtain ⟨c0, c1, c2, c3, c4, c5, c6, c7, c8, c9, c10⟩ := eleven y9; clear l9 y9))
    refine bodyPost_ret (res_rd Try.results31 rfl (set11_lies R9.out y.h (.slice ka2 (len y.k) kc2) (.slice ta2 y.s.toks.length tc2) y.s.at_ (.slice oa2 y.s.opn.length oc2) y.s.wait y.e)) rfl ?_
    rw [HX.out]
    exact rd_done (afterL BZ.out BC.out) (Nat.le_of_lt nR.out) (KZ.out.below BC.out (Nat.le_refl _)) (SZ.out.below BC.out (Nat.le_refl _)) (fun b hb q => ⟨q.1, fun e => q.2 (by rw [e]; simp)⟩)
end Go.Proofs.Ytmgclgojmckfhaa.Typ
/-
  The document's atom: round brackets. Conditions: what the document's Next and Type do, and sizes that are borne.
-/
namespace Go.Proofs.Ytmgclgojmckfhaa.Typ
open Tks Tre Go.RowKit
open Lay (Sx StV Fit9 nextS NextOut tkV9 IntArg)
set_option linter.unusedSimpArgs false
set_option linter.unusedVariables false

theorem StOn.lit {w : World} {P : Nat → Prop} {tv ov : Value} {s : Sx} (h : StOn w P tv ov s) (o : Obj) (n c : Nat) : StOn (w.alloc o) (Px P (.slice (some ⟨w.heap.size, 0, none⟩) n c)) tv ov s :=
  h.kept (below_one w o).size (fun b hb hp => ⟨(below_one w o).block b hb, hp, fun e => by
    have e2 : w.heap.size = b := by simpa [Value.ownBlock] using e
    omega⟩)
theorem KOn.lit {w : World} {P : Nat → Prop} {v : Value} {k : Fo} (h : KOn w P v k) (o : Obj) (n c : Nat) : KOn (w.alloc o) (Px P (.slice (some ⟨w.heap.size, 0, none⟩) n c)) v k :=
  h.kept (below_one w o).size (fun b hb hp => ⟨(below_one w o).block b hb, hp, fun e => by
    have e2 : w.heap.size = b := by simpa [Value.ownBlock] using e
    omega⟩)
theorem nx_lf {N : Nat} {s : Sx} (h : er s = 0) (hf : Fits N s) : lf (nx s) ≤ 6 * N + 2 := by
  have hf2 := fits_next hf
  unfold lf
  cases hok : Lay.okB s with
  | false =>
    unfold er nextS at h
    rw [if_neg (by rw [hok]; decide)] at h
    exact absurd h (by decide)
  | true =>
    obtain ⟨n, hn, ok⟩ := (Lay.okB_iff s).1 hok
    have ok2 := (Lay.next_ok ok).1
    have e : (nx s).wait = (Lay.nextL s.toks n s.opn s.wait).wait := by
      unfold nx nextS
      rw [if_pos hok, hn, Int.toNat_natCast]
    have h1 := ok2.wlo
    have h2 := hf2.1
    have h3 := hf2.2
    unfold Lay.left
    rw [e]
    omega
/-- RdOutG, written out. -/
def RdOutX (x : Rd) (P : Nat → Prop) (r : Option Nat) (W : World) (e : Ending) (w' : World) : Prop :=
  ∃ ka kc ta tc oa oc, e = .returned (.agg #[.int .i64 x.h.kind, .int .i64 x.h.form, .string x.h.text, .int .i64 x.h.line, .int .i64 x.h.col, .slice ka (len x.k) kc, .slice ta x.s.toks.length tc, .int .i64 x.s.at_, .slice oa x.s.opn.length oc, .int .i64 x.s.wait, .int .i64 x.e]) ∧ KOn w' P (.slice ka (len x.k) kc) x.k ∧ StOn w' P (.slice ta x.s.toks.length tc) (.slice oa x.s.opn.length oc) x.s ∧ W.grownBy w' r
theorem one_len (a : Nv) : ([a] : List Nv).length ≤ maxLen := by
  unfold maxLen
  simp
theorem foL_one (x : Rd) (v : Value) : foL [⟨x.h, x.k, v⟩] = oneF x := rfl
/-- What a call leaves as it was that takes over a row just laid. -/
theorem lit_after {Z w4 w5 : World} {o : Obj} {n c : Nat} (h : Below Z.heap.size Z w4) (g : (w4.alloc o).grownBy w5 (Value.slice (some ⟨w4.heap.size, 0, none⟩) n c).ownBlock) : Below Z.heap.size Z w5 := by
  have b := afterL h (below_one w4 o)
  have z := h.size
  exact ⟨g.os.trans b.os, g.tape.trans b.tape, g.output.trans b.output, Nat.le_trans b.size g.size, fun k hk => (g.block k (Nat.lt_of_lt_of_le hk b.size) (fun e => by
    have e2 : k = w4.heap.size := by simpa [Value.ownBlock] using e
    omega)).trans (b.block k hk)⟩
set_option maxRecDepth 1000000 in
set_option maxHeartbeats 400000 in
theorem atom_c {N : Nat} (hN : N ≤ 1099511627776) (hN2 : 12 * N + 20 ≤ 1099511627776) (R : NextOn 59) (T : Sx → Rd) (hTF : ∀ s, Fits N s → Fits N (T s).s) (hTL : ∀ s, Lv s (T s)) (deep deep1 : Int) (hd : IntKind.i64.wrap (deep - 1) = deep1) (CTY : ∀ (P : Nat → Prop) (tv ov : Value) (s : Sx) (W : World), StOn W P tv ov s → Fits N s → (∀ b, W.heap.size ≤ b → P b) → Calls Try.prog 17 #[stV tv s.at_ ov s.wait, .int .i64 deep1] W (RdOut (T s) P W.heap.size W)) (P : Nat → Prop) (tv ov : Value) (s : Sx) (w : World) (hs : StOn w P tv ov s) (hf : Fits N s) (hP : ∀ b, w.heap.size ≤ b → P b) (h0 : (takeR s).e = 0) (h1 : startsB (tk s) = true) (h2 : (tk s).kind = 15 ∧ (tk s).text.data.toList = [40]) :
    Calls Try.prog 31 #[stV tv s.at_ ov s.wait, .int .i64 deep] w (RdOut (atomR T s) P w.heap.size w) := by
  obtain ⟨ta, tc, oa, oc, rfl, rfl⟩ := hs.len
  have CT := Lib.hid (fun Q W h h2 => take_any hN R Q (.slice ta s.toks.length tc) (.slice oa s.opn.length oc) s W h hf h2)
  unfold RdOut rdV at CT
  have HX0 : Hid (atomR T s = roundR T (oneF (takeR s)) (takeR s).s) := by
    unfold Hid atomR
    rw [if_pos h0, if_pos h1, if_pos h2]
  have CPK := Lib.hid (fun Q W h => peek_any hN R Q (.slice ta s.toks.length tc) (.slice oa s.opn.length oc) s W h hf)
  have CS := Lib.hid (fun W => starts_any (tk s) W)
  rw [h1] at CS
  have CR := Lib.hid (fun Q v l tv ov W a b c d => round_any hN R T hTF hTL deep deep1 hd CTY Q v l tv ov (takeR s).s W a b (fits_take hf) c 1099511627776 (Nat.le_refl _) d)
  unfold RdOutG rdV at CR
  unfold stV at CR
  unfold stV tkV9 at CPK
  unfold tkV9 at CS
  have HLF : Hid (1 + 2 * lf (takeR s).s + 4 ≤ 1099511627776) := by
    have := nx_lf (take_e h0) hf
    have e : (takeR s).s = nx s := by rw [take_ok h0]
    unfold Hid
    rw [e]
    omega
  have y3 : ((takeR s).h.form == 15) = true := by
    rw [take_ok h0]
    exact beq_iff_eq.2 h2.1
  have y1 : ((takeR s).h.text.toList == [40]) = true := by
    rw [take_ok h0, Lib.toList_data]
    exact beq_iff_eq.2 h2.2
  have HFM := Lib.hid (And.intro y1 y3)
  clear y1 y3
  generalize tk s = t0 at *
  unfold stV at CT
  unfold stV
  have HS := Lib.hid hs
  have HP := Lib.hid hP
  have HF := Lib.hid (fits_take hf)
  have x1 : ((takeR s).e != 0) = false := by rw [bne, beq_iff_eq.2 h0]; rfl
  generalize hXX : atomR T s = x at *
  generalize takeR s = y at *
  clear hs hf hP R h0 h1 h2 hTF hTL CTY hd
  go_enter Try.func31, Try.ntmps31
  go_upto_region 1 with fail
  refine gen_world (fun X => Below w.heap.size w X ∧ Lies X w.heap.size (stB (.slice ta s.toks.length tc) s.at_ (.slice oa s.opn.length oc) s.wait) ∧ Lies X (w.heap.size + 1) kRd) ⟨below_two' w _ _, (two_lie w _ _).1, (two_lie w _ _).2⟩ ?_
  rintro X ⟨bX, lX, rX⟩
  have OX := HS.out.into (l := [w.heap.size, w.heap.size + 1]) bX (by simp)
  have PX := Pm.of (l := [w.heap.size, w.heap.size + 1]) HP.out (by have := rX.lt; simp; omega) bX.size
  have nR : Hid (w.heap.size < w.heap.size + 1) := Nat.lt_succ_self _
  generalize w.heap.size + 1 = R2 at *
  obtain ⟨a0, a1, a2, a3⟩ := four_st lX
  have BX := Lib.hid bX
  have RX := Lib.hid rX
  have LX := Lib.hid lX
  have TX := Lib.hid (CT.out _ X OX PX)
  clear bX lX rX OX PX CT
  go_upto_region 2 with (first
    | (go_at_call 39; refine TX.out.mono ?_; rintro e w2 ⟨ka2, kc2, ta2, tc2, oa2, oc2, rfl, k2, s2, b2⟩; have B2 := Lib.hid b2; have K2 := Lib.hid k2; have S2 := Lib.hid s2; clear b2 k2 s2))
  refine gen_world (fun Z => Below X.heap.size X Z ∧ Lies Z w2.heap.size (rdO y.h (.slice ka2 (len y.k) kc2) (.slice ta2 y.s.toks.length tc2) y.s.at_ (.slice oa2 y.s.opn.length oc2) y.s.wait y.e) ∧ KOn Z (Pm P [w.heap.size, R2, w2.heap.size]) (.slice ka2 (len y.k) kc2) y.k ∧ StOn Z (Pm P [w.heap.size, R2, w2.heap.size]) (.slice ta2 y.s.toks.length tc2) (.slice oa2 y.s.opn.length oc2) y.s ∧ X.heap.size ≤ w2.heap.size) ⟨afterL B2.out (below_one w2 _), Lies.new w2 _, pm_add (KOn.into K2.out (l := [w2.heap.size]) (below_one w2 _) (by simp)), pm_add' (S2.out.into (l := [w2.heap.size]) (below_one w2 _) (by simp)), B2.out.size⟩ ?_
  rintro Z ⟨bZ, yZ, kZ, sZ, hM⟩
  have hM2 : R2 < w2.heap.size := Nat.lt_of_lt_of_le RX.out.lt hM
  have BZ := Lib.hid (afterL BX.out bZ)
  have rZ := RX.out.below bZ RX.out.lt
  have lZ := LX.out.below bZ LX.out.lt
  generalize w2.heap.size = M at *
  have HM2 := Lib.hid hM2
  have oZ := HS.out.into (l := [w.heap.size, R2, M]) BZ.out (by have := nR.out; simp; omega)
  have pZ := Pm.of (l := [w.heap.size, R2, M]) HP.out (by have := lZ.lt; have := rZ.lt; have := yZ.lt; simp; omega) BZ.out.size
  clear a0 a1 a2 a3 bZ B2 K2 S2 TX RX LX BX hM hM2
  obtain ⟨c0, c1, c2, c3, c4, c5, c6, c7, c8, c9, c10⟩ := eleven yZ
  obtain ⟨a0, a1, a2, a3⟩ := four_st lZ
  have CP := Lib.hid (fun W (h : Below Z.heap.size Z W) => CPK.out _ W (oZ.below h (Nat.le_refl _)))
  have LZ := Lib.hid lZ
  have RZ := Lib.hid rZ
  have YZ := Lib.hid yZ
  have KZ := Lib.hid kZ
  have SZ := Lib.hid sZ
  have OZ := Lib.hid oZ
  have PZ := Lib.hid pZ
  have BC := Lib.hid (Below.refl Z.heap.size Z)
  clear lZ rZ yZ kZ sZ oZ pZ
  obtain ⟨z, HZ⟩ : ∃ z, roundR T (oneF y) y.s = z := ⟨_, rfl⟩
  rw [HZ] at HX0
  have HX : Hid (x = z) := HX0.out
  have CR := Lib.hid (fun Q kv v tv ov W a b c d => (CR.out Q v [⟨y.h, y.k, kv⟩] tv ov W a b c d))
  change Hid (∀ (Q : Nat → Prop) (kv v tv ov : Value) (W : World), _ → _ → _ → _ → Calls _ _ _ _ (RdOutX (roundR T (oneF y) y.s) Q v.ownBlock W)) at CR
  rw [HZ] at CR
  unfold RdOutX at CR
  clear HX0 CPK
  have y1 := HFM.out.1
  have y3 := HFM.out.2
  go_upto_region 7 with (first
    | (go_at_call 53; refine (CP.out _ BC.out).mono ?_; rintro e w3 ⟨rfl, b3⟩; have BC := Lib.hid (afterL BC.out b3); clear b3; have l9 := LZ.out.below BC.out LZ.out.lt; have y9 := YZ.out.below BC.out YZ.out.lt; clear a0 a1 a2 a3 c0 c1 c2 c3 c4 c5 c6 c7 c8 c9 c10; obtain ⟨a0, a1, a2, a3⟩ := four_st l9; obtain ⟨c0, c1, c2, c3, c4, c5, c6, c7, c8, c9, c10⟩ := eleven y9; clear l9 y9)
    | (go_at_call 52; refine (CS.out _).mono ?_; rintro e w4 ⟨rfl, b4⟩; have BC := Lib.hid (afterL BC.out b4); clear b4; have l9 := LZ.out.below BC.out LZ.out.lt; have y9 := YZ.out.below BC.out YZ.out.lt; clear a0 a1 a2 a3 c0 c1 c2 c3 c4 c5 c6 c7 c8 c9 c10; obtain ⟨a0, a1, a2, a3⟩ := four_st l9; obtain ⟨c0, c1, c2, c3, c4, c5, c6, c7, c8, c9, c10⟩ := eleven y9; clear l9 y9))
  have n3 : M < w4.heap.size := Nat.lt_of_lt_of_le YZ.out.lt BC.out.size
  have n1 : ¬ M = w4.heap.size := by omega
  have n2 : ¬ w4.heap.size = M := fun e => n1 e.symm
  go_wp2_with (first
    | (go_at_call 55; have kw := KZ.out.below BC.out (Nat.le_refl _); have nl := NdP.lit (w := w4) (B := 0) (P := (Pm P [w.heap.size, R2, M])) [(⟨y.h, y.k, .slice ka2 (len y.k) kc2⟩ : Nv)] (cs := #[.int .i64 y.h.kind, .int .i64 y.h.form, .string y.h.text, .int .i64 y.h.line, .int .i64 y.h.col, .slice ka2 (len y.k) kc2]) rfl (fun x hx => by rw [List.mem_singleton.1 hx]; exact kw) (Nat.zero_le _) (one_len _) (PZ.out _ BC.out.size); refine (CR.out (Pm P [w.heap.size, R2, M]) (.slice ka2 (len y.k) kc2) (.slice (some ⟨w4.heap.size, 0, none⟩) 1 1) (.slice ta2 y.s.toks.length tc2) (.slice oa2 y.s.opn.length oc2) _ nl ((SZ.out.below BC.out (Nat.le_refl _)).lit _ _ _) (fun b hb => PZ.out b (by have := BC.out.size; have := (below_one w4 (.cells #[.int .i64 y.h.kind, .int .i64 y.h.form, .string y.h.text, .int .i64 y.h.line, .int .i64 y.h.col, .slice ka2 (len y.k) kc2] 30)).size; omega)) HLF.out).mono ?_; rintro e w5 ⟨ka5, kc5, ta5, tc5, oa5, oc5, rfl, k5, s5, b5⟩; have BC := Lib.hid (lit_after BC.out b5); have K5 := Lib.hid k5; have S5 := Lib.hid s5; clear b5 k5 s5 nl kw; have r9 := RZ.out.below BC.out RZ.out.lt; unfold kRd at r9; obtain ⟨f0, f1, f2, f3, f4, f5, f6, f7, f8, f9, f10⟩ := free11 r9; obtain ⟨e0, e1, e2, e3, e4, e5, e6, e7, e8, e9, e10⟩ := eleven r9; dsimp only [zeroN] at e0 e1 e2 e3 e4; have R9 := Lib.hid r9; clear r9))
  refine bodyPost_ret (res_rd Try.results31 rfl (set11_lies R9.out z.h (.slice ka5 (len z.k) kc5) (.slice ta5 z.s.toks.length tc5) z.s.at_ (.slice oa5 z.s.opn.length oc5) z.s.wait z.e)) rfl ?_
  rw [HX.out]
  exact rd_done (afterL BZ.out BC.out) (Nat.le_of_lt nR.out) K5.out S5.out (fun b hb q => ⟨q.1, fun e => q.2 (by rw [e]; simp)⟩)
end Go.Proofs.Ytmgclgojmckfhaa.Typ
/-
  Rows just laid, in a call of its own. No program is run here.
-/
namespace Go.Proofs.Ytmgclgojmckfhaa.Typ
open Tks Tre Go.RowKit
open Lay (Sx StV Fit9 nextS NextOut tkV9 IntArg)
set_option linter.unusedSimpArgs false
set_option linter.unusedVariables false

theorem Mv.lit {w w4 : World} (h : Below w.heap.size w w4) (o : Obj) (n c : Nat) : Mv w (w4.alloc o) (.slice none 0 0) (.slice (some ⟨w4.heap.size, 0, none⟩) n c) := by
  have b := afterL h (below_one w4 o)
  exact ⟨⟨b.os, b.tape, b.output, b.size, fun k hk _ => b.block k hk⟩, .inr ⟨w4.heap.size, rfl, h.size⟩⟩
theorem Mv.bel {w Z : World} {v : Value} (h : Mv w Z (.slice none 0 0) v) : Below w.heap.size w Z :=
  ⟨h.grown.os, h.grown.tape, h.grown.output, h.grown.size, fun k hk => h.grown.block k hk (by simp [Value.ownBlock])⟩
end Go.Proofs.Ytmgclgojmckfhaa.Typ
