/-
  The document's clean, Deep, Limit. No condition.
-/
import Derived.Test.YtmgclgojmckfhaaZRow
import Derived.Test.YtmgclgojmckfhaaZArr
namespace Go.Proofs.Ytmgclgojmckfhaa.Typ
open Tks Tre Go.RowKit
open Lay (Sx StV Fit9 nextS NextOut tkV9 IntArg)
set_option linter.unusedSimpArgs false
set_option linter.unusedVariables false

set_option maxRecDepth 1000000 in
set_option maxHeartbeats 400000 in
theorem clean_any (P : Nat → Prop) (y : Rd) (kv tv ov : Value) (w : World) (hk : KOn w P kv y.k) (hs : StOn w P tv ov y.s) :
    Calls Try.prog 30 #[rdV y.h kv tv y.s.at_ ov y.s.wait y.e] w (RdOut (cleanR y) P w.heap.size w) := by
  obtain ⟨ta, tc, oa, oc, rfl, rfl⟩ := hs.len
  obtain ⟨ka, kc, rfl⟩ := hk.len
  unfold rdV
  have HS := Lib.hid hs
  have HK := Lib.hid hk
  obtain ⟨x, hx⟩ : ∃ x, cleanR y = x := ⟨_, rfl⟩
  have HX := Lib.hid hx
  rw [hx]
  clear hs hk hx
  go_enter Try.func30, Try.ntmps30
  go_upto_region 1 with fail
  refine gen_world (fun X => Below w.heap.size w X ∧ Lies X w.heap.size (rdO y.h (.slice ka (len y.k) kc) (.slice ta y.s.toks.length tc) y.s.at_ (.slice oa y.s.opn.length oc) y.s.wait y.e) ∧ Lies X (w.heap.size + 1) kRd) ⟨below_two' w _ _, (two_lie w _ _).1, (two_lie w _ _).2⟩ ?_
  rintro X ⟨bX, yX, rX⟩
  have nR : Hid (w.heap.size < w.heap.size + 1) := Nat.lt_succ_self _
  generalize w.heap.size + 1 = R2 at *
  have OX := HS.out.into (l := [w.heap.size, R2]) bX (by have := nR.out; simp; omega)
  have QX := KOn.into HK.out (l := [w.heap.size, R2]) bX (by have := nR.out; simp; omega)
  obtain ⟨c0, c1, c2, c3, c4, c5, c6, c7, c8, c9, c10⟩ := eleven yX
  obtain ⟨g0, g1, g2, g3, g4, g5, g6, g7, g8, g9, g10⟩ := free11 yX
  have BX := Lib.hid bX
  have RX := Lib.hid rX
  have YX := Lib.hid yX
  have OX := Lib.hid OX
  have QX := Lib.hid QX
  clear bX rX yX HS HK
  try generalize (Value.agg #[.int .i64 y.h.kind, .int .i64 y.h.form, .string y.h.text, .int .i64 y.h.line, .int .i64 y.h.col, .slice ka (len y.k) kc, .slice ta y.s.toks.length tc, .int .i64 y.s.at_, .slice oa y.s.opn.length oc, .int .i64 y.s.wait, .int .i64 y.e] : Value) = og1
  by_cases h0 : y.e = 0
  · have x1 : (y.e != 0) = false := by rw [bne, beq_iff_eq.2 h0]; rfl
    have hx := HX.out
    unfold cleanR at hx
    rw [if_pos h0] at hx
    have HX := Lib.hid hx
    have r9 := RX.out
    unfold kRd at r9
    obtain ⟨f0, f1, f2, f3, f4, f5, f6, f7, f8, f9, f10⟩ := free11 r9
    obtain ⟨e0, e1, e2, e3, e4, e5, e6, e7, e8, e9, e10⟩ := eleven r9
    dsimp only [zeroN] at e0 e1 e2 e3 e4
    have R9 := Lib.hid r9
    clear r9 h0 hx
    go_wp2_with fail
    refine bodyPost_ret (res_rd Try.results30 rfl (set11_lies R9.out y.h (.slice ka (len y.k) kc) (.slice ta y.s.toks.length tc) y.s.at_ (.slice oa y.s.opn.length oc) y.s.wait y.e)) rfl ?_
    rw [← HX.out]
    exact rd_done BX.out (Nat.le_of_lt nR.out) QX.out OX.out (fun b hb q => ⟨q.1, fun e => q.2 (by rw [e]; simp)⟩)
  · have x1 : (y.e != 0) = true := bne_iff_ne.2 h0
    have hx := HX.out
    unfold cleanR at hx
    rw [if_neg h0] at hx
    have HX := Lib.hid hx
    clear h0 hx
    go_upto_region 3 with fail
    refine gen_world (fun V => StOn V (Pm P [w.heap.size, R2]) (.slice ta y.s.toks.length tc) (.slice oa y.s.opn.length oc) y.s ∧ Lies V R2 kRd ∧ Lies V w.heap.size (rdO zeroN (.slice none 0 0) (.slice ta y.s.toks.length tc) y.s.at_ (.slice oa y.s.opn.length oc) y.s.wait y.e) ∧ Below w.heap.size w V) ⟨StOn.set6 OX.out (fun b h e => h.2 (by rw [e]; simp)) .., (set6_keep _ (by have := nR.out; omega) ..).trans RX.out, set6_lies YX.out zeroN _, set6_below BX.out (Nat.le_refl _) ..⟩ ?_
    rintro V ⟨sV, rV, yV, bV⟩
    clear c0 c1 c2 c3 c4 c5 c6 c7 c8 c9 c10 g0 g1 g2 g3 g4 g5 g6 g7 g8 g9 g10 OX QX RX YX BX
    obtain ⟨c0, c1, c2, c3, c4, c5, c6, c7, c8, c9, c10⟩ := eleven yV
    unfold kRd at rV
    obtain ⟨f0, f1, f2, f3, f4, f5, f6, f7, f8, f9, f10⟩ := free11 rV
    obtain ⟨e0, e1, e2, e3, e4, e5, e6, e7, e8, e9, e10⟩ := eleven rV
    dsimp only [zeroN] at e0 e1 e2 e3 e4 c0 c1 c2 c3 c4
    have R9 := Lib.hid rV
    have SU := Lib.hid sV
    have BU := Lib.hid bV
    clear sV rV yV bV
    go_wp2_with fail
    refine bodyPost_ret (res_rd Try.results30 rfl (set11_lies R9.out zeroN (.slice none 0 0) (.slice ta y.s.toks.length tc) y.s.at_ (.slice oa y.s.opn.length oc) y.s.wait y.e)) rfl ?_
    rw [← HX.out]
    exact rd_done (x := errR y.s y.e) BU.out (Nat.le_of_lt nR.out) (KOn.nil ..) SU.out (fun b hb q => ⟨q.1, fun e => q.2 (by rw [e]; simp)⟩)
set_option maxRecDepth 1000000 in
set_option maxHeartbeats 400000 in
theorem deepr_any (P : Nat → Prop) (tv ov : Value) (s : Sx) (w : World) (hs : StOn w P tv ov s) :
    Calls Try.prog 29 #[stV tv s.at_ ov s.wait] w (RdOut (errR s 2) P w.heap.size w) := by
  obtain ⟨ta, tc, oa, oc, rfl, rfl⟩ := hs.len
  unfold stV
  have HS := Lib.hid hs
  clear hs
  go_enter Try.func29, Try.ntmps29
  go_upto_region 1 with fail
  refine gen_world (fun X => Below w.heap.size w X ∧ Lies X w.heap.size (stB (.slice ta s.toks.length tc) s.at_ (.slice oa s.opn.length oc) s.wait) ∧ Lies X (w.heap.size + 1) kRd) ⟨below_two' w _ _, (two_lie w _ _).1, (two_lie w _ _).2⟩ ?_
  rintro X ⟨bX, lX, rX⟩
  have nR : Hid (w.heap.size < w.heap.size + 1) := Nat.lt_succ_self _
  generalize w.heap.size + 1 = R2 at *
  have OX := Lib.hid (HS.out.into (l := [w.heap.size, R2]) bX (by have := nR.out; simp; omega))
  obtain ⟨a0, a1, a2, a3⟩ := four_st lX
  unfold kRd at rX
  obtain ⟨f0, f1, f2, f3, f4, f5, f6, f7, f8, f9, f10⟩ := free11 rX
  obtain ⟨e0, e1, e2, e3, e4, e5, e6, e7, e8, e9, e10⟩ := eleven rX
  dsimp only [zeroN] at e0 e1 e2 e3 e4
  have R9 := Lib.hid rX
  have BX := Lib.hid bX
  clear bX lX rX HS
  go_wp2_with fail
  refine bodyPost_ret (res_rd Try.results29 rfl (set11_lies R9.out zeroN (.slice none 0 0) (.slice ta s.toks.length tc) s.at_ (.slice oa s.opn.length oc) s.wait 2)) rfl ?_
  exact rd_done (x := errR s 2) BX.out (Nat.le_of_lt nR.out) (KOn.nil ..) OX.out (fun b hb q => ⟨q.1, fun e => q.2 (by rw [e]; simp)⟩)
set_option maxRecDepth 1000000 in
set_option maxHeartbeats 400000 in
theorem limit_any (deep : Int) (h1 : 1 ≤ deep) (w : World) :
    Calls Try.prog 32 #[.int .i64 deep] w fun e w' => e = .returned (.int .i64 ((lim deep : Nat) : Int)) ∧ Below w.heap.size w w' := by
  have e1 : ((lim deep : Nat) : Int) = max 0 (min deep 100) := by
    unfold lim
    omega
  rw [e1]
  clear e1
  go_enter Try.func32, Try.ntmps32
  go_wp2_with fail
  · go_ret
    exact ⟨by rw [show max 0 (min deep 100) = 100 from by omega]; rfl, Below.refl _ _⟩
  · go_ret
    exact ⟨by rw [show max 0 (min deep 100) = deep from by omega]; rfl, Below.refl _ _⟩
end Go.Proofs.Ytmgclgojmckfhaa.Typ
/-
  The document's Atom, Row, Type over states. Conditions: what the document's Next does, and sizes that are borne.
-/
namespace Go.Proofs.Ytmgclgojmckfhaa.Typ
open Tks Tre Go.RowKit
open Lay (Sx StV Fit9 nextS NextOut tkV9 IntArg)
set_option linter.unusedSimpArgs false
set_option linter.unusedVariables false

set_option maxRecDepth 1000000 in
set_option maxHeartbeats 1000000 in
theorem atomC_any {N : Nat} (A : Sx → Rd) (deep : Int) (CA : ∀ (P : Nat → Prop) (tv ov : Value) (s : Sx) (W : World), StOn W P tv ov s → Fits N s → (∀ b, W.heap.size ≤ b → P b) → Calls Try.prog 31 #[stV tv s.at_ ov s.wait, .int .i64 ((lim deep : Nat) : Int)] W (RdOut (A s) P W.heap.size W)) (P : Nat → Prop) (tv ov : Value) (s : Sx) (w : World) (hs : StOn w P tv ov s) (hf : Fits N s) (hP : ∀ b, w.heap.size ≤ b → P b) :
    Calls Try.prog 13 #[stV tv s.at_ ov s.wait, .int .i64 deep] w (RdOut (if deep < 1 then errR s 2 else cleanR (A s)) P w.heap.size w) := by
  obtain ⟨ta, tc, oa, oc, rfl, rfl⟩ := hs.len
  have CD := Lib.hid (fun Q W h => deepr_any Q (.slice ta s.toks.length tc) (.slice oa s.opn.length oc) s W h)
  have CL := Lib.hid (fun h W => limit_any deep h W)
  have CY := Lib.hid (fun Q W h h2 => CA Q (.slice ta s.toks.length tc) (.slice oa s.opn.length oc) s W h hf h2)
  have CC := Lib.hid (fun Q kv tv ov W h1 h2 => clean_any Q (A s) kv tv ov W h1 h2)
  unfold RdOut rdV at CD CY CC
  unfold stV at CD CY
  unfold stV
  have HS := Lib.hid hs
  have HP := Lib.hid hP
  obtain ⟨x, hx⟩ : ∃ x, (if deep < 1 then errR s 2 else cleanR (A s)) = x := ⟨_, rfl⟩
  have HX := Lib.hid hx
  rw [hx]
  generalize A s = y at *
  clear hs hf hP CA hx
  go_enter Try.func13, Try.ntmps13
  go_upto_region 1 with fail
  refine gen_world (fun X => Below w.heap.size w X ∧ Lies X w.heap.size (stB (.slice ta s.toks.length tc) s.at_ (.slice oa s.opn.length oc) s.wait) ∧ Lies X (w.heap.size + 1) kRd) ⟨below_two' w _ _, (two_lie w _ _).1, (two_lie w _ _).2⟩ ?_
  rintro X ⟨bX, lX, rX⟩
  have nR : Hid (w.heap.size < w.heap.size + 1) := Nat.lt_succ_self _
  generalize w.heap.size + 1 = R2 at *
  have OX := HS.out.into (l := [w.heap.size, R2]) bX (by have := nR.out; simp; omega)
  have PX := Pm.of (l := [w.heap.size, R2]) HP.out (by have := lX.lt; have := rX.lt; simp; omega) bX.size
  obtain ⟨a0, a1, a2, a3⟩ := four_st lX
  have BX := Lib.hid bX
  have LX := Lib.hid lX
  have RX := Lib.hid rX
  by_cases h0 : deep < 1
  · have hx := HX.out
    rw [if_pos h0] at hx
    have HX := Lib.hid hx
    have d0 : decide (deep < 1) = true := decide_eq_true h0
    have DX := Lib.hid (CD.out _ X OX)
    clear hx h0 bX lX rX OX PX
    go_wp2_with (first
      | (go_at_call 29; refine DX.out.mono ?_; rintro e w2 ⟨ka2, kc2, ta2, tc2, oa2, oc2, rfl, k2, s2, b2⟩; have B2 := Lib.hid b2; have K2 := Lib.hid k2; have S2 := Lib.hid s2; have r9 := RX.out.below b2 RX.out.lt; clear b2 k2 s2; unfold kRd at r9; obtain ⟨f0, f1, f2, f3, f4, f5, f6, f7, f8, f9, f10⟩ := free11 r9; obtain ⟨e0, e1, e2, e3, e4, e5, e6, e7, e8, e9, e10⟩ := eleven r9; dsimp only [zeroN] at e0 e1 e2 e3 e4; have R9 := Lib.hid r9; clear r9))
    refine bodyPost_ret (res_rd Try.results13 rfl (set11_lies R9.out (errR s 2).h (.slice ka2 (len (errR s 2).k) kc2) (.slice ta2 (errR s 2).s.toks.length tc2) (errR s 2).s.at_ (.slice oa2 (errR s 2).s.opn.length oc2) (errR s 2).s.wait (errR s 2).e)) rfl ?_
    rw [← HX.out]
    exact rd_done (afterL BX.out B2.out) (Nat.le_of_lt nR.out) K2.out S2.out (fun b hb q => ⟨q.1, fun e => q.2 (by rw [e]; simp)⟩)
  · have hx := HX.out
    rw [if_neg h0] at hx
    have HX := Lib.hid hx
    have d0 : decide (deep < 1) = false := decide_eq_false h0
    have LW := Lib.hid (CL.out (by omega))
    have YW := Lib.hid (fun W (h : Below X.heap.size X W) => CY.out _ W (OX.below h (Nat.le_refl _)) (fun b hb => PX b (Nat.le_trans h.size hb)))
    have HCL : Hid (cleanR y = x) := hx
    generalize ((lim deep : Nat) : Int) = dd at *
    clear hx h0 bX lX rX OX PX CD CY CL
    go_upto_region 3 with fail
    have KS : Hid (∀ w', Below X.heap.size X w' → w'.cell? ⟨w.heap.size, 0, none⟩ = some (.slice ta s.toks.length tc) ∧ w'.cell? ⟨w.heap.size, 1, none⟩ = some (.int .i64 s.at_) ∧ w'.cell? ⟨w.heap.size, 2, none⟩ = some (.slice oa s.opn.length oc) ∧ w'.cell? ⟨w.heap.size, 3, none⟩ = some (.int .i64 s.wait)) := by
      intro w' hw
      exact four_st (LX.out.below hw LX.out.lt)
    have m1 : ¬ R2 = w.heap.size := by have := nR.out; omega
    have m2 : ¬ w.heap.size = R2 := by omega
    go_region_held3 (fun w' => w'.cell? ⟨w.heap.size, 0, none⟩ = some (.slice ta s.toks.length tc) ∧ w'.cell? ⟨w.heap.size, 1, none⟩ = some (.int .i64 s.at_) ∧ w'.cell? ⟨w.heap.size, 2, none⟩ = some (.slice oa s.opn.length oc) ∧ w'.cell? ⟨w.heap.size, 3, none⟩ = some (.int .i64 s.wait)) (first | go_keep | exact S2) (first
      | (go_at_call 32; refine (LW.out _).mono ?_; rintro e w3 ⟨rfl, b3⟩; have B3 := Lib.hid (show Below X.heap.size X w3 from ⟨b3.os, b3.tape, b3.output, b3.size, b3.block⟩); have S2 := KS.out w3 B3.out; clear b3)
      | (go_at_call 31; refine (YW.out _ B3.out).mono ?_; rintro e w4 ⟨ka2, kc2, ta2, tc2, oa2, oc2, rfl, k2, s2, b2⟩; have B4 := Lib.hid (afterL B3.out b2); have c2 := CC.out _ _ _ _ w4 k2 s2; rw [HCL.out] at c2; have C2 := Lib.hid c2; have S2 := KS.out w4 B4.out; clear b2 k2 s2 c2)
      | (go_at_call 30; refine C2.out.mono ?_; rintro e w5 ⟨ka5, kc5, ta5, tc5, oa5, oc5, rfl, k5, s5, b5⟩; have B5 := Lib.hid (afterL B4.out b5); have K5 := Lib.hid k5; have S5 := Lib.hid s5; have r9 := RX.out.below B5.out RX.out.lt; have S2 := KS.out w5 B5.out; clear b5 k5 s5; unfold kRd at r9; obtain ⟨f0, f1, f2, f3, f4, f5, f6, f7, f8, f9, f10⟩ := free11 r9; obtain ⟨e0, e1, e2, e3, e4, e5, e6, e7, e8, e9, e10⟩ := eleven r9; dsimp only [zeroN] at e0 e1 e2 e3 e4; have R9 := Lib.hid r9; clear r9))
    go_wp2_with fail
    refine bodyPost_ret (res_rd Try.results13 rfl (set11_lies R9.out x.h (.slice ka5 (len x.k) kc5) (.slice ta5 x.s.toks.length tc5) x.s.at_ (.slice oa5 x.s.opn.length oc5) x.s.wait x.e)) rfl ?_
    exact rd_done (afterL BX.out B5.out) (Nat.le_of_lt nR.out) K5.out S5.out (fun b hb q => ⟨q.1, fun e => q.2 (by rw [e]; simp)⟩)
set_option maxRecDepth 1000000 in
set_option maxHeartbeats 1000000 in
theorem rowC_any {N : Nat} (A : Sx → Rd) (deep : Int) (CA : ∀ (P : Nat → Prop) (tv ov : Value) (s : Sx) (W : World), StOn W P tv ov s → Fits N s → (∀ b, W.heap.size ≤ b → P b) → Calls Try.prog 34 #[stV tv s.at_ ov s.wait, .int .i64 ((lim deep : Nat) : Int)] W (RdOut (A s) P W.heap.size W)) (P : Nat → Prop) (tv ov : Value) (s : Sx) (w : World) (hs : StOn w P tv ov s) (hf : Fits N s) (hP : ∀ b, w.heap.size ≤ b → P b) :
    Calls Try.prog 15 #[stV tv s.at_ ov s.wait, .int .i64 deep] w (RdOut (if deep < 1 then errR s 2 else cleanR (A s)) P w.heap.size w) := by
  obtain ⟨ta, tc, oa, oc, rfl, rfl⟩ := hs.len
  have CD := Lib.hid (fun Q W h => deepr_any Q (.slice ta s.toks.length tc) (.slice oa s.opn.length oc) s W h)
  have CL := Lib.hid (fun h W => limit_any deep h W)
  have CY := Lib.hid (fun Q W h h2 => CA Q (.slice ta s.toks.length tc) (.slice oa s.opn.length oc) s W h hf h2)
  have CC := Lib.hid (fun Q kv tv ov W h1 h2 => clean_any Q (A s) kv tv ov W h1 h2)
  unfold RdOut rdV at CD CY CC
  unfold stV at CD CY
  unfold stV
  have HS := Lib.hid hs
  have HP := Lib.hid hP
  obtain ⟨x, hx⟩ : ∃ x, (if deep < 1 then errR s 2 else cleanR (A s)) = x := ⟨_, rfl⟩
  have HX := Lib.hid hx
  rw [hx]
  generalize A s = y at *
  clear hs hf hP CA hx
  go_enter Try.func15, Try.ntmps15
  go_upto_region 1 with fail
  refine gen_world (fun X => Below w.heap.size w X ∧ Lies X w.heap.size (stB (.slice ta s.toks.length tc) s.at_ (.slice oa s.opn.length oc) s.wait) ∧ Lies X (w.heap.size + 1) kRd) ⟨below_two' w _ _, (two_lie w _ _).1, (two_lie w _ _).2⟩ ?_
  rintro X ⟨bX, lX, rX⟩
  have nR : Hid (w.heap.size < w.heap.size + 1) := Nat.lt_succ_self _
  generalize w.heap.size + 1 = R2 at *
  have OX := HS.out.into (l := [w.heap.size, R2]) bX (by have := nR.out; simp; omega)
  have PX := Pm.of (l := [w.heap.size, R2]) HP.out (by have := lX.lt; have := rX.lt; simp; omega) bX.size
  obtain ⟨a0, a1, a2, a3⟩ := four_st lX
  have BX := Lib.hid bX
  have LX := Lib.hid lX
  have RX := Lib.hid rX
  by_cases h0 : deep < 1
  · have hx := HX.out
    rw [if_pos h0] at hx
    have HX := Lib.hid hx
    have d0 : decide (deep < 1) = true := decide_eq_true h0
    have DX := Lib.hid (CD.out _ X OX)
    clear hx h0 bX lX rX OX PX
    go_wp2_with (first
      | (go_at_call 29; refine DX.out.mono ?_; rintro e w2 ⟨ka2, kc2, ta2, tc2, oa2, oc2, rfl, k2, s2, b2⟩; have B2 := Lib.hid b2; have K2 := Lib.hid k2; have S2 := Lib.hid s2; have r9 := RX.out.below b2 RX.out.lt; clear b2 k2 s2; unfold kRd at r9; obtain ⟨f0, f1, f2, f3, f4, f5, f6, f7, f8, f9, f10⟩ := free11 r9; obtain ⟨e0, e1, e2, e3, e4, e5, e6, e7, e8, e9, e10⟩ := eleven r9; dsimp only [zeroN] at e0 e1 e2 e3 e4; have R9 := Lib.hid r9; clear r9))
    refine bodyPost_ret (res_rd Try.results15 rfl (set11_lies R9.out (errR s 2).h (.slice ka2 (len (errR s 2).k) kc2) (.slice ta2 (errR s 2).s.toks.length tc2) (errR s 2).s.at_ (.slice oa2 (errR s 2).s.opn.length oc2) (errR s 2).s.wait (errR s 2).e)) rfl ?_
    rw [← HX.out]
    exact rd_done (afterL BX.out B2.out) (Nat.le_of_lt nR.out) K2.out S2.out (fun b hb q => ⟨q.1, fun e => q.2 (by rw [e]; simp)⟩)
  · have hx := HX.out
    rw [if_neg h0] at hx
    have HX := Lib.hid hx
    have d0 : decide (deep < 1) = false := decide_eq_false h0
    have LW := Lib.hid (CL.out (by omega))
    have YW := Lib.hid (fun W (h : Below X.heap.size X W) => CY.out _ W (OX.below h (Nat.le_refl _)) (fun b hb => PX b (Nat.le_trans h.size hb)))
    have HCL : Hid (cleanR y = x) := hx
    generalize ((lim deep : Nat) : Int) = dd at *
    clear hx h0 bX lX rX OX PX CD CY CL
    go_upto_region 3 with fail
    have KS : Hid (∀ w', Below X.heap.size X w' → w'.cell? ⟨w.heap.size, 0, none⟩ = some (.slice ta s.toks.length tc) ∧ w'.cell? ⟨w.heap.size, 1, none⟩ = some (.int .i64 s.at_) ∧ w'.cell? ⟨w.heap.size, 2, none⟩ = some (.slice oa s.opn.length oc) ∧ w'.cell? ⟨w.heap.size, 3, none⟩ = some (.int .i64 s.wait)) := by
      intro w' hw
      exact four_st (LX.out.below hw LX.out.lt)
    have m1 : ¬ R2 = w.heap.size := by have := nR.out; omega
    have m2 : ¬ w.heap.size = R2 := by omega
    go_region_held3 (fun w' => w'.cell? ⟨w.heap.size, 0, none⟩ = some (.slice ta s.toks.length tc) ∧ w'.cell? ⟨w.heap.size, 1, none⟩ = some (.int .i64 s.at_) ∧ w'.cell? ⟨w.heap.size, 2, none⟩ = some (.slice oa s.opn.length oc) ∧ w'.cell? ⟨w.heap.size, 3, none⟩ = some (.int .i64 s.wait)) (first | go_keep | exact S2) (first
      | (go_at_call 32; refine (LW.out _).mono ?_; rintro e w3 ⟨rfl, b3⟩; have B3 := Lib.hid (show Below X.heap.size X w3 from ⟨b3.os, b3.tape, b3.output, b3.size, b3.block⟩); have S2 := KS.out w3 B3.out; clear b3)
      | (go_at_call 34; refine (YW.out _ B3.out).mono ?_; rintro e w4 ⟨ka2, kc2, ta2, tc2, oa2, oc2, rfl, k2, s2, b2⟩; have B4 := Lib.hid (afterL B3.out b2); have c2 := CC.out _ _ _ _ w4 k2 s2; rw [HCL.out] at c2; have C2 := Lib.hid c2; have S2 := KS.out w4 B4.out; clear b2 k2 s2 c2)
      | (go_at_call 30; refine C2.out.mono ?_; rintro e w5 ⟨ka5, kc5, ta5, tc5, oa5, oc5, rfl, k5, s5, b5⟩; have B5 := Lib.hid (afterL B4.out b5); have K5 := Lib.hid k5; have S5 := Lib.hid s5; have r9 := RX.out.below B5.out RX.out.lt; have S2 := KS.out w5 B5.out; clear b5 k5 s5; unfold kRd at r9; obtain ⟨f0, f1, f2, f3, f4, f5, f6, f7, f8, f9, f10⟩ := free11 r9; obtain ⟨e0, e1, e2, e3, e4, e5, e6, e7, e8, e9, e10⟩ := eleven r9; dsimp only [zeroN] at e0 e1 e2 e3 e4; have R9 := Lib.hid r9; clear r9))
    go_wp2_with fail
    refine bodyPost_ret (res_rd Try.results15 rfl (set11_lies R9.out x.h (.slice ka5 (len x.k) kc5) (.slice ta5 x.s.toks.length tc5) x.s.at_ (.slice oa5 x.s.opn.length oc5) x.s.wait x.e)) rfl ?_
    exact rd_done (afterL BX.out B5.out) (Nat.le_of_lt nR.out) K5.out S5.out (fun b hb q => ⟨q.1, fun e => q.2 (by rw [e]; simp)⟩)
set_option maxRecDepth 1000000 in
set_option maxHeartbeats 1000000 in
theorem typeC_any {N : Nat} (A : Sx → Rd) (deep : Int) (CA : ∀ (P : Nat → Prop) (tv ov : Value) (s : Sx) (W : World), StOn W P tv ov s → Fits N s → (∀ b, W.heap.size ≤ b → P b) → Calls Try.prog 34 #[stV tv s.at_ ov s.wait, .int .i64 ((lim deep : Nat) : Int)] W (RdOut (A s) P W.heap.size W)) (P : Nat → Prop) (tv ov : Value) (s : Sx) (w : World) (hAF : ∀ s, Fits N s → Fits N (A s).s) (CR : ∀ (P : Nat → Prop) (y : Rd) (kv tv ov : Value) (w : World), KOn w P kv y.k → StOn w P tv ov y.s → Fits N y.s → (∀ b, w.heap.size ≤ b → P b) → (y.e = 0 → lf y.s ≤ 6 * N + 2) → Calls Try.prog 36 #[rdV y.h kv tv y.s.at_ ov y.s.wait y.e, .int .i64 ((lim deep : Nat) : Int)] w (RdOut (arrowsR A y) P w.heap.size w)) (hlf : (A s).e = 0 → lf (A s).s ≤ 6 * N + 2) (hs : StOn w P tv ov s) (hf : Fits N s) (hP : ∀ b, w.heap.size ≤ b → P b) :
    Calls Try.prog 17 #[stV tv s.at_ ov s.wait, .int .i64 deep] w (RdOut (if deep < 1 then errR s 2 else cleanR (arrowsR A (A s))) P w.heap.size w) := by
  obtain ⟨ta, tc, oa, oc, rfl, rfl⟩ := hs.len
  have CD := Lib.hid (fun Q W h => deepr_any Q (.slice ta s.toks.length tc) (.slice oa s.opn.length oc) s W h)
  have CL := Lib.hid (fun h W => limit_any deep h W)
  have CY := Lib.hid (fun Q W h h2 => CA Q (.slice ta s.toks.length tc) (.slice oa s.opn.length oc) s W h hf h2)
  have CC := Lib.hid (fun Q kv tv ov W h1 h2 => clean_any Q (arrowsR A (A s)) kv tv ov W h1 h2)
  have CRR := Lib.hid (fun Q kv tv ov W a b c => CR Q (A s) kv tv ov W a b (hAF _ hf) c hlf)
  unfold RdOut rdV at CD CY CC CRR
  unfold stV at CD CY
  unfold stV
  have HS := Lib.hid hs
  have HP := Lib.hid hP
  obtain ⟨x, hx⟩ : ∃ x, (if deep < 1 then errR s 2 else cleanR (arrowsR A (A s))) = x := ⟨_, rfl⟩
  have HX := Lib.hid hx
  rw [hx]
  obtain ⟨z, hz⟩ : ∃ z, arrowsR A (A s) = z := ⟨_, rfl⟩
  rw [hz] at HX CC CRR
  generalize A s = y at *
  clear hs hf hP CA hx hz CR hlf hAF
  go_enter Try.func17, Try.ntmps17
  go_upto_region 1 with fail
  refine gen_world (fun X => Below w.heap.size w X ∧ Lies X w.heap.size (stB (.slice ta s.toks.length tc) s.at_ (.slice oa s.opn.length oc) s.wait) ∧ Lies X (w.heap.size + 1) kRd) ⟨below_two' w _ _, (two_lie w _ _).1, (two_lie w _ _).2⟩ ?_
  rintro X ⟨bX, lX, rX⟩
  have nR : Hid (w.heap.size < w.heap.size + 1) := Nat.lt_succ_self _
  generalize w.heap.size + 1 = R2 at *
  have OX := HS.out.into (l := [w.heap.size, R2]) bX (by have := nR.out; simp; omega)
  have PX := Pm.of (l := [w.heap.size, R2]) HP.out (by have := lX.lt; have := rX.lt; simp; omega) bX.size
  obtain ⟨a0, a1, a2, a3⟩ := four_st lX
  have BX := Lib.hid bX
  have LX := Lib.hid lX
  have RX := Lib.hid rX
  by_cases h0 : deep < 1
  · have hx := HX.out
    rw [if_pos h0] at hx
    have HX := Lib.hid hx
    have d0 : decide (deep < 1) = true := decide_eq_true h0
    have DX := Lib.hid (CD.out _ X OX)
    clear hx h0 bX lX rX OX PX
    go_wp2_with (first
      | (go_at_call 29; refine DX.out.mono ?_; rintro e w2 ⟨ka2, kc2, ta2, tc2, oa2, oc2, rfl, k2, s2, b2⟩; have B2 := Lib.hid b2; have K2 := Lib.hid k2; have S2 := Lib.hid s2; have r9 := RX.out.below b2 RX.out.lt; clear b2 k2 s2; unfold kRd at r9; obtain ⟨f0, f1, f2, f3, f4, f5, f6, f7, f8, f9, f10⟩ := free11 r9; obtain ⟨e0, e1, e2, e3, e4, e5, e6, e7, e8, e9, e10⟩ := eleven r9; dsimp only [zeroN] at e0 e1 e2 e3 e4; have R9 := Lib.hid r9; clear r9))
    refine bodyPost_ret (res_rd Try.results17 rfl (set11_lies R9.out (errR s 2).h (.slice ka2 (len (errR s 2).k) kc2) (.slice ta2 (errR s 2).s.toks.length tc2) (errR s 2).s.at_ (.slice oa2 (errR s 2).s.opn.length oc2) (errR s 2).s.wait (errR s 2).e)) rfl ?_
    rw [← HX.out]
    exact rd_done (afterL BX.out B2.out) (Nat.le_of_lt nR.out) K2.out S2.out (fun b hb q => ⟨q.1, fun e => q.2 (by rw [e]; simp)⟩)
  · have hx := HX.out
    rw [if_neg h0] at hx
    have HX := Lib.hid hx
    have d0 : decide (deep < 1) = false := decide_eq_false h0
    have LW := Lib.hid (CL.out (by omega))
    have YW := Lib.hid (fun W (h : Below X.heap.size X W) => CY.out _ W (OX.below h (Nat.le_refl _)) (fun b hb => PX b (Nat.le_trans h.size hb)))
    have HCL : Hid (cleanR z = x) := hx
    generalize ((lim deep : Nat) : Int) = dd at *
    have PXH := Lib.hid PX
    clear hx h0 bX lX rX OX PX CD CY CL
    go_upto_region 3 with fail
    have KS : Hid (∀ w', Below X.heap.size X w' → w'.cell? ⟨w.heap.size, 0, none⟩ = some (.slice ta s.toks.length tc) ∧ w'.cell? ⟨w.heap.size, 1, none⟩ = some (.int .i64 s.at_) ∧ w'.cell? ⟨w.heap.size, 2, none⟩ = some (.slice oa s.opn.length oc) ∧ w'.cell? ⟨w.heap.size, 3, none⟩ = some (.int .i64 s.wait)) := by
      intro w' hw
      exact four_st (LX.out.below hw LX.out.lt)
    have m1 : ¬ R2 = w.heap.size := by have := nR.out; omega
    have m2 : ¬ w.heap.size = R2 := by omega
    go_region_held3 (fun w' => w'.cell? ⟨w.heap.size, 0, none⟩ = some (.slice ta s.toks.length tc) ∧ w'.cell? ⟨w.heap.size, 1, none⟩ = some (.int .i64 s.at_) ∧ w'.cell? ⟨w.heap.size, 2, none⟩ = some (.slice oa s.opn.length oc) ∧ w'.cell? ⟨w.heap.size, 3, none⟩ = some (.int .i64 s.wait)) (first | go_keep | exact S2) (first
      | (have q := B4; clear q; go_at_call 32; refine (LW.out _).mono ?_; rintro e w6 ⟨rfl, b6⟩; have B6 := Lib.hid (afterL B4.out (show Below w4.heap.size w4 w6 from ⟨b6.os, b6.tape, b6.output, b6.size, b6.block⟩)); have S2 := KS.out w6 B6.out; have Z6 := Lib.hid (show Below w4.heap.size w4 w6 from ⟨b6.os, b6.tape, b6.output, b6.size, b6.block⟩); clear b6)
      | (go_at_call 32; refine (LW.out _).mono ?_; rintro e w3 ⟨rfl, b3⟩; have B3 := Lib.hid (show Below X.heap.size X w3 from ⟨b3.os, b3.tape, b3.output, b3.size, b3.block⟩); have S2 := KS.out w3 B3.out; clear b3)
      | (go_at_call 34; refine (YW.out _ B3.out).mono ?_; rintro e w4 ⟨ka2, kc2, ta2, tc2, oa2, oc2, rfl, k2, s2, b2⟩; have B4 := Lib.hid (afterL B3.out b2); have K2 := Lib.hid k2; have SS2 := Lib.hid s2; have S2 := KS.out w4 B4.out; clear b2 k2 s2)
      | (go_at_call 36; refine (CRR.out _ _ _ _ w6 (K2.out.below Z6.out (Nat.le_refl _)) (SS2.out.below Z6.out (Nat.le_refl _)) (fun b hb => PXH.out b (by have := B6.out.size; omega))).mono ?_; rintro e w7 ⟨ka7, kc7, ta7, tc7, oa7, oc7, rfl, k7, s7, b7⟩; have B7 := Lib.hid (afterL B6.out b7); have c2 := CC.out _ _ _ _ w7 k7 s7; rw [HCL.out] at c2; have C2 := Lib.hid c2; have S2 := KS.out w7 B7.out; clear b7 k7 s7 c2)
      | (go_at_call 30; refine C2.out.mono ?_; rintro e w5 ⟨ka5, kc5, ta5, tc5, oa5, oc5, rfl, k5, s5, b5⟩; have B5 := Lib.hid (afterL B7.out b5); have K5 := Lib.hid k5; have S5 := Lib.hid s5; have r9 := RX.out.below B5.out RX.out.lt; have S2 := KS.out w5 B5.out; clear b5 k5 s5; unfold kRd at r9; obtain ⟨f0, f1, f2, f3, f4, f5, f6, f7, f8, f9, f10⟩ := free11 r9; obtain ⟨e0, e1, e2, e3, e4, e5, e6, e7, e8, e9, e10⟩ := eleven r9; dsimp only [zeroN] at e0 e1 e2 e3 e4; have R9 := Lib.hid r9; clear r9))
    go_wp2_with fail
    refine bodyPost_ret (res_rd Try.results17 rfl (set11_lies R9.out x.h (.slice ka5 (len x.k) kc5) (.slice ta5 x.s.toks.length tc5) x.s.at_ (.slice oa5 x.s.opn.length oc5) x.s.wait x.e)) rfl ?_
    exact rd_done (afterL BX.out B5.out) (Nat.le_of_lt nR.out) K5.out S5.out (fun b hb q => ⟨q.1, fun e => q.2 (by rw [e]; simp)⟩)
end Go.Proofs.Ytmgclgojmckfhaa.Typ
