/-
  The laws TypeAtoms, TypeRows, TypeTypes, TypeFulls. No condition.
-/
import Derived.Test.YtmgclgojmckfhaaZPro
namespace Go.Proofs.Ytmgclgojmckfhaa.Typ
open Tks Tre Go.RowKit
open Lay (Sx StV Fit9 nextS NextOut tkV9 IntArg Kp)
set_option linter.unusedSimpArgs false
set_option linter.unusedVariables false

theorem fits_clean2 {N : Nat} {x : Rd} (h : Fits N x.s) : Fits N (cleanR x).s := fits_clean h
theorem fits_atomS {N : Nat} {s : Sx} (deep : Int) (h : Fits N s) : Fits N (atomS s deep).s := by
  unfold atomS
  split
  · exact h
  · exact fits_clean (fits_atom (fun s h => fits_type _ s h) h)
theorem fits_rowS {N : Nat} {s : Sx} (deep : Int) (h : Fits N s) : Fits N (rowS s deep).s := by
  unfold rowS
  split
  · exact h
  · exact fits_clean (fits_row (fun s h => fits_atom (fun s h => fits_type _ s h) h) h)
theorem fits_typeS {N : Nat} {s : Sx} (deep : Int) (h : Fits N s) : Fits N (typeS s deep).s := fits_type _ s h
theorem fits_fullS {N : Nat} {s : Sx} (deep : Int) (h : Fits N s) : Fits N (fullS s deep).s := by
  unfold fullS
  split
  · exact h
  · exact fits_full (fun s h => fits_type _ s h) h
set_option maxRecDepth 1000000 in
set_option maxHeartbeats 4000000 in
theorem atoms_walk (v : Value) (s : Sx) (deep : Int) (w : World) (hv : StV w v s) :
    Calls Try.prog 3 #[v, .int .i64 deep] w fun e w' => e = .returned (.bool true) ∧ Below w.heap.size w w' := by
  obtain ⟨tv, ov, rfl, ht, ho⟩ := hv
  have hs : StOn w (fun _ => True) tv ov s := StOn.of ht ho (fun _ _ => trivial)
  obtain ⟨ta, tc, oa, oc, rfl, rfl⟩ := hs.len
  have HS := Lib.hid hs
  have CS : Hid (∀ W, Below w.heap.size w W → _) := fun W hW => tsmall_any (fun _ => True) (.slice ta s.toks.length tc) (.slice oa s.opn.length oc) s W (hs.below hW (Nat.le_refl _))
  have CA := Lib.hid (fun W => tawake_any W)
  unfold stV at CS
  clear ht ho hs
  cases hm : smallB s with
  | false =>
    rw [hm] at CS
    clear hm
    go_enter Try.func3, Try.ntmps3
    go_upto_region 1 with fail
    refine gen_world (fun X => Below w.heap.size w X ∧ Lies X w.heap.size (stB (.slice ta s.toks.length tc) s.at_ (.slice oa s.opn.length oc) s.wait)) ⟨below_one w _, Lies.new w _⟩ ?_
    rintro X ⟨bX, lX⟩
    obtain ⟨a0, a1, a2, a3⟩ := four_st lX
    have BX := Lib.hid bX
    clear bX lX HS
    go_wp2_with (first
      | (go_at_call 9; refine (CS.out _ BX.out).mono ?_; rintro e w1 ⟨rfl, b1⟩; have B1 := Lib.hid (afterL BX.out b1); clear b1)
      | (go_at_call 10; refine (CA.out _).mono ?_; rintro e w2 ⟨rfl, b2⟩; have B2 := Lib.hid (afterL B1.out b2); clear b2))
    go_ret
    exact ⟨rfl, B2.out⟩
  | true =>
    rw [hm] at CS
    have hf := small_fits hm
    have hfx : Fit9 (atomS s deep).s := (fits_atomS deep hf).nine big_le
    have CP : Hid (∀ W, Below w.heap.size w W → Calls Try.prog 11 #[stV (.slice ta s.toks.length tc) s.at_ (.slice oa s.opn.length oc) s.wait, .int .i64 deep] W (TOut (atomS s deep) (fun _ => True) W)) := fun W hW => prog_atom deep (fun _ => True) _ _ s W (HS.out.below hW (Nat.le_refl _)) hf (fun _ _ => trivial)
    have CR : Hid (∀ W, Below w.heap.size w W → Calls Try.prog 13 #[stV (.slice ta s.toks.length tc) s.at_ (.slice oa s.opn.length oc) s.wait, .int .i64 deep] W (RdOut (atomS s deep) (fun _ => True) W.heap.size W)) := fun W hW => doc_atom refnext_on deep (fun _ => True) _ _ s W (HS.out.below hW (Nat.le_refl _)) hf (fun _ _ => trivial)
    generalize atomS s deep = x at *
    have CM := Lib.hid (fun kv kv2 tv ov tv2 ov2 W a b c d => tsame_any x hfx (fun _ => True) kv kv2 tv ov tv2 ov2 W a b c d)
    unfold TOut ndV stV at CP
    unfold RdOut rdV stV at CR
    unfold ndV stV rdV at CM
    clear hm hf hfx HS
    go_enter Try.func3, Try.ntmps3
    go_upto_region 1 with fail
    refine gen_world (fun X => Below w.heap.size w X ∧ Lies X w.heap.size (stB (.slice ta s.toks.length tc) s.at_ (.slice oa s.opn.length oc) s.wait)) ⟨below_one w _, Lies.new w _⟩ ?_
    rintro X ⟨bX, lX⟩
    obtain ⟨a0, a1, a2, a3⟩ := four_st lX
    have BX := Lib.hid bX
    have LX := Lib.hid lX
    clear bX lX
    go_upto_region 4 with (first
      | (go_at_call 9; refine (CS.out _ BX.out).mono ?_; rintro e w1 ⟨rfl, b1⟩; have B1 := Lib.hid b1; clear a0 a1 a2 a3; obtain ⟨a0, a1, a2, a3⟩ := four_st (LX.out.below b1 LX.out.lt); clear b1)
      | (go_at_call 11; refine (CP.out _ (afterL BX.out B1.out)).mono ?_; rintro e w2 ⟨ka2, kc2, ta2, tc2, oa2, oc2, rfl, k2, s2, b2⟩; have B2 := Lib.hid (afterL B1.out b2); have K2 := Lib.hid k2; have S3 := Lib.hid s2; clear k2 s2 b2 a0 a1 a2 a3))
    refine gen_world (fun Y => Below w.heap.size w Y ∧ Lies Y w.heap.size (stB (.slice ta s.toks.length tc) s.at_ (.slice oa s.opn.length oc) s.wait) ∧ Lies Y w2.heap.size (ndO x.h (.slice ka2 (len x.k) kc2)) ∧ Lies Y (w2.heap.size + 1) (stB (.slice ta2 x.s.toks.length tc2) x.s.at_ (.slice oa2 x.s.opn.length oc2) x.s.wait) ∧ KOn Y (fun _ => True) (.slice ka2 (len x.k) kc2) x.k ∧ StOn Y (fun _ => True) (.slice ta2 x.s.toks.length tc2) (.slice oa2 x.s.opn.length oc2) x.s) ?_ ?_
    · have b4 := below_two' w2 (ndO x.h (.slice ka2 (len x.k) kc2)) (stB (.slice ta2 x.s.toks.length tc2) x.s.at_ (.slice oa2 x.s.opn.length oc2) x.s.wait)
      exact ⟨afterL BX.out (afterL B2.out b4), LX.out.below (afterL B2.out b4) LX.out.lt, (two_lie w2 _ _).1, (two_lie w2 _ _).2, KOn.below K2.out b4 (Nat.le_refl _), S3.out.below b4 (Nat.le_refl _)⟩
    rintro Y ⟨bY, lY, nY, tY, kY, sY⟩
    generalize w2.heap.size = M at *
    have KS : Hid (∀ w' : World, Below Y.heap.size Y w' → (w'.cell? ⟨w.heap.size, 0, none⟩ = some (.slice ta s.toks.length tc) ∧ w'.cell? ⟨w.heap.size, 1, none⟩ = some (.int .i64 s.at_) ∧ w'.cell? ⟨w.heap.size, 2, none⟩ = some (.slice oa s.opn.length oc) ∧ w'.cell? ⟨w.heap.size, 3, none⟩ = some (.int .i64 s.wait) ∧ w'.cell? ⟨M, 0, none⟩ = some (.int .i64 x.h.kind) ∧ w'.cell? ⟨M, 1, none⟩ = some (.int .i64 x.h.form) ∧ w'.cell? ⟨M, 2, none⟩ = some (.string x.h.text) ∧ w'.cell? ⟨M, 3, none⟩ = some (.int .i64 x.h.line) ∧ w'.cell? ⟨M, 4, none⟩ = some (.int .i64 x.h.col) ∧ w'.cell? ⟨M, 5, none⟩ = some (.slice ka2 (len x.k) kc2) ∧ w'.cell? ⟨M + 1, 0, none⟩ = some (.slice ta2 x.s.toks.length tc2) ∧ w'.cell? ⟨M + 1, 1, none⟩ = some (.int .i64 x.s.at_) ∧ w'.cell? ⟨M + 1, 2, none⟩ = some (.slice oa2 x.s.opn.length oc2) ∧ w'.cell? ⟨M + 1, 3, none⟩ = some (.int .i64 x.s.wait))) := by
      intro w' hw
      obtain ⟨a0, a1, a2, a3⟩ := four_st (lY.below hw lY.lt)
      obtain ⟨d0, d1, d2, d3, d4, d5⟩ := (nY.below hw nY.lt).node
      obtain ⟨q0, q1, q2, q3⟩ := four_st (tY.below hw tY.lt)
      exact ⟨a0, a1, a2, a3, d0, d1, d2, d3, d4, d5, q0, q1, q2, q3⟩
    obtain ⟨a0, a1, a2, a3⟩ := four_st lY
    obtain ⟨d0, d1, d2, d3, d4, d5⟩ := nY.node
    obtain ⟨q0, q1, q2, q3⟩ := four_st tY
    have BY := Lib.hid bY
    have KY := Lib.hid kY
    have SY := Lib.hid sY
    clear bY lY nY tY kY sY BX LX B2 K2 S3 CS CP
    go_region_held3 (fun w' => w'.cell? ⟨w.heap.size, 0, none⟩ = some (.slice ta s.toks.length tc) ∧ w'.cell? ⟨w.heap.size, 1, none⟩ = some (.int .i64 s.at_) ∧ w'.cell? ⟨w.heap.size, 2, none⟩ = some (.slice oa s.opn.length oc) ∧ w'.cell? ⟨w.heap.size, 3, none⟩ = some (.int .i64 s.wait) ∧ w'.cell? ⟨M, 0, none⟩ = some (.int .i64 x.h.kind) ∧ w'.cell? ⟨M, 1, none⟩ = some (.int .i64 x.h.form) ∧ w'.cell? ⟨M, 2, none⟩ = some (.string x.h.text) ∧ w'.cell? ⟨M, 3, none⟩ = some (.int .i64 x.h.line) ∧ w'.cell? ⟨M, 4, none⟩ = some (.int .i64 x.h.col) ∧ w'.cell? ⟨M, 5, none⟩ = some (.slice ka2 (len x.k) kc2) ∧ w'.cell? ⟨M + 1, 0, none⟩ = some (.slice ta2 x.s.toks.length tc2) ∧ w'.cell? ⟨M + 1, 1, none⟩ = some (.int .i64 x.s.at_) ∧ w'.cell? ⟨M + 1, 2, none⟩ = some (.slice oa2 x.s.opn.length oc2) ∧ w'.cell? ⟨M + 1, 3, none⟩ = some (.int .i64 x.s.wait)) (first | go_keep | exact S2) (first
      | (go_at_call 10; refine (CA.out _).mono ?_; rintro e w3 ⟨rfl, b3⟩; have B3 := Lib.hid (show Below Y.heap.size Y w3 from ⟨b3.os, b3.tape, b3.output, b3.size, b3.block⟩); have S2 := KS.out w3 B3.out; clear b3)
      | (go_at_call 13; refine (CR.out _ (afterL BY.out B3.out)).mono ?_; rintro e w4 ⟨ka4, kc4, ta4, tc4, oa4, oc4, rfl, k4, s4, b4⟩; have B4 := Lib.hid (afterL B3.out b4); have S2 := KS.out w4 B4.out; have MX := Lib.hid (CM.out _ _ _ _ _ _ w4 (KOn.below KY.out B4.out (Nat.le_refl _)) k4 (SY.out.below B4.out (Nat.le_refl _)) s4); clear k4 s4 b4)
      | (go_at_call 12; refine MX.out.mono ?_; rintro e w5 ⟨rfl, b5⟩; have B5 := Lib.hid (afterL B4.out b5); have S2 := KS.out w5 B5.out; clear b5))
    go_wp2_with fail
    go_ret
    exact ⟨rfl, afterL BY.out B5.out⟩
set_option maxRecDepth 1000000 in
set_option maxHeartbeats 4000000 in
theorem rows_walk (v : Value) (s : Sx) (deep : Int) (w : World) (hv : StV w v s) :
    Calls Try.prog 4 #[v, .int .i64 deep] w fun e w' => e = .returned (.bool true) ∧ Below w.heap.size w w' := by
  obtain ⟨tv, ov, rfl, ht, ho⟩ := hv
  have hs : StOn w (fun _ => True) tv ov s := StOn.of ht ho (fun _ _ => trivial)
  obtain ⟨ta, tc, oa, oc, rfl, rfl⟩ := hs.len
  have HS := Lib.hid hs
  have CS : Hid (∀ W, Below w.heap.size w W → _) := fun W hW => tsmall_any (fun _ => True) (.slice ta s.toks.length tc) (.slice oa s.opn.length oc) s W (hs.below hW (Nat.le_refl _))
  have CA := Lib.hid (fun W => tawake_any W)
  unfold stV at CS
  clear ht ho hs
  cases hm : smallB s with
  | false =>
    rw [hm] at CS
    clear hm
    go_enter Try.func4, Try.ntmps4
    go_upto_region 1 with fail
    refine gen_world (fun X => Below w.heap.size w X ∧ Lies X w.heap.size (stB (.slice ta s.toks.length tc) s.at_ (.slice oa s.opn.length oc) s.wait)) ⟨below_one w _, Lies.new w _⟩ ?_
    rintro X ⟨bX, lX⟩
    obtain ⟨a0, a1, a2, a3⟩ := four_st lX
    have BX := Lib.hid bX
    clear bX lX HS
    go_wp2_with (first
      | (go_at_call 9; refine (CS.out _ BX.out).mono ?_; rintro e w1 ⟨rfl, b1⟩; have B1 := Lib.hid (afterL BX.out b1); clear b1)
      | (go_at_call 10; refine (CA.out _).mono ?_; rintro e w2 ⟨rfl, b2⟩; have B2 := Lib.hid (afterL B1.out b2); clear b2))
    go_ret
    exact ⟨rfl, B2.out⟩
  | true =>
    rw [hm] at CS
    have hf := small_fits hm
    have hfx : Fit9 (rowS s deep).s := (fits_rowS deep hf).nine big_le
    have CP : Hid (∀ W, Below w.heap.size w W → Calls Try.prog 14 #[stV (.slice ta s.toks.length tc) s.at_ (.slice oa s.opn.length oc) s.wait, .int .i64 deep] W (TOut (rowS s deep) (fun _ => True) W)) := fun W hW => prog_row deep (fun _ => True) _ _ s W (HS.out.below hW (Nat.le_refl _)) hf (fun _ _ => trivial)
    have CR : Hid (∀ W, Below w.heap.size w W → Calls Try.prog 15 #[stV (.slice ta s.toks.length tc) s.at_ (.slice oa s.opn.length oc) s.wait, .int .i64 deep] W (RdOut (rowS s deep) (fun _ => True) W.heap.size W)) := fun W hW => doc_row refnext_on deep (fun _ => True) _ _ s W (HS.out.below hW (Nat.le_refl _)) hf (fun _ _ => trivial)
    generalize rowS s deep = x at *
    have CM := Lib.hid (fun kv kv2 tv ov tv2 ov2 W a b c d => tsame_any x hfx (fun _ => True) kv kv2 tv ov tv2 ov2 W a b c d)
    unfold TOut ndV stV at CP
    unfold RdOut rdV stV at CR
    unfold ndV stV rdV at CM
    clear hm hf hfx HS
    go_enter Try.func4, Try.ntmps4
    go_upto_region 1 with fail
    refine gen_world (fun X => Below w.heap.size w X ∧ Lies X w.heap.size (stB (.slice ta s.toks.length tc) s.at_ (.slice oa s.opn.length oc) s.wait)) ⟨below_one w _, Lies.new w _⟩ ?_
    rintro X ⟨bX, lX⟩
    obtain ⟨a0, a1, a2, a3⟩ := four_st lX
    have BX := Lib.hid bX
    have LX := Lib.hid lX
    clear bX lX
    go_upto_region 4 with (first
      | (go_at_call 9; refine (CS.out _ BX.out).mono ?_; rintro e w1 ⟨rfl, b1⟩; have B1 := Lib.hid b1; clear a0 a1 a2 a3; obtain ⟨a0, a1, a2, a3⟩ := four_st (LX.out.below b1 LX.out.lt); clear b1)
      | (go_at_call 14; refine (CP.out _ (afterL BX.out B1.out)).mono ?_; rintro e w2 ⟨ka2, kc2, ta2, tc2, oa2, oc2, rfl, k2, s2, b2⟩; have B2 := Lib.hid (afterL B1.out b2); have K2 := Lib.hid k2; have S3 := Lib.hid s2; clear k2 s2 b2 a0 a1 a2 a3))
    refine gen_world (fun Y => Below w.heap.size w Y ∧ Lies Y w.heap.size (stB (.slice ta s.toks.length tc) s.at_ (.slice oa s.opn.length oc) s.wait) ∧ Lies Y w2.heap.size (ndO x.h (.slice ka2 (len x.k) kc2)) ∧ Lies Y (w2.heap.size + 1) (stB (.slice ta2 x.s.toks.length tc2) x.s.at_ (.slice oa2 x.s.opn.length oc2) x.s.wait) ∧ KOn Y (fun _ => True) (.slice ka2 (len x.k) kc2) x.k ∧ StOn Y (fun _ => True) (.slice ta2 x.s.toks.length tc2) (.slice oa2 x.s.opn.length oc2) x.s) ?_ ?_
    · have b4 := below_two' w2 (ndO x.h (.slice ka2 (len x.k) kc2)) (stB (.slice ta2 x.s.toks.length tc2) x.s.at_ (.slice oa2 x.s.opn.length oc2) x.s.wait)
      exact ⟨afterL BX.out (afterL B2.out b4), LX.out.below (afterL B2.out b4) LX.out.lt, (two_lie w2 _ _).1, (two_lie w2 _ _).2, KOn.below K2.out b4 (Nat.le_refl _), S3.out.below b4 (Nat.le_refl _)⟩
    rintro Y ⟨bY, lY, nY, tY, kY, sY⟩
    generalize w2.heap.size = M at *
    have KS : Hid (∀ w' : World, Below Y.heap.size Y w' → (w'.cell? ⟨w.heap.size, 0, none⟩ = some (.slice ta s.toks.length tc) ∧ w'.cell? ⟨w.heap.size, 1, none⟩ = some (.int .i64 s.at_) ∧ w'.cell? ⟨w.heap.size, 2, none⟩ = some (.slice oa s.opn.length oc) ∧ w'.cell? ⟨w.heap.size, 3, none⟩ = some (.int .i64 s.wait) ∧ w'.cell? ⟨M, 0, none⟩ = some (.int .i64 x.h.kind) ∧ w'.cell? ⟨M, 1, none⟩ = some (.int .i64 x.h.form) ∧ w'.cell? ⟨M, 2, none⟩ = some (.string x.h.text) ∧ w'.cell? ⟨M, 3, none⟩ = some (.int .i64 x.h.line) ∧ w'.cell? ⟨M, 4, none⟩ = some (.int .i64 x.h.col) ∧ w'.cell? ⟨M, 5, none⟩ = some (.slice ka2 (len x.k) kc2) ∧ w'.cell? ⟨M + 1, 0, none⟩ = some (.slice ta2 x.s.toks.length tc2) ∧ w'.cell? ⟨M + 1, 1, none⟩ = some (.int .i64 x.s.at_) ∧ w'.cell? ⟨M + 1, 2, none⟩ = some (.slice oa2 x.s.opn.length oc2) ∧ w'.cell? ⟨M + 1, 3, none⟩ = some (.int .i64 x.s.wait))) := by
      intro w' hw
      obtain ⟨a0, a1, a2, a3⟩ := four_st (lY.below hw lY.lt)
      obtain ⟨d0, d1, d2, d3, d4, d5⟩ := (nY.below hw nY.lt).node
      obtain ⟨q0, q1, q2, q3⟩ := four_st (tY.below hw tY.lt)
      exact ⟨a0, a1, a2, a3, d0, d1, d2, d3, d4, d5, q0, q1, q2, q3⟩
    obtain ⟨a0, a1, a2, a3⟩ := four_st lY
    obtain ⟨d0, d1, d2, d3, d4, d5⟩ := nY.node
    obtain ⟨q0, q1, q2, q3⟩ := four_st tY
    have BY := Lib.hid bY
    have KY := Lib.hid kY
    have SY := Lib.hid sY
    clear bY lY nY tY kY sY BX LX B2 K2 S3 CS CP
    go_region_held3 (fun w' => w'.cell? ⟨w.heap.size, 0, none⟩ = some (.slice ta s.toks.length tc) ∧ w'.cell? ⟨w.heap.size, 1, none⟩ = some (.int .i64 s.at_) ∧ w'.cell? ⟨w.heap.size, 2, none⟩ = some (.slice oa s.opn.length oc) ∧ w'.cell? ⟨w.heap.size, 3, none⟩ = some (.int .i64 s.wait) ∧ w'.cell? ⟨M, 0, none⟩ = some (.int .i64 x.h.kind) ∧ w'.cell? ⟨M, 1, none⟩ = some (.int .i64 x.h.form) ∧ w'.cell? ⟨M, 2, none⟩ = some (.string x.h.text) ∧ w'.cell? ⟨M, 3, none⟩ = some (.int .i64 x.h.line) ∧ w'.cell? ⟨M, 4, none⟩ = some (.int .i64 x.h.col) ∧ w'.cell? ⟨M, 5, none⟩ = some (.slice ka2 (len x.k) kc2) ∧ w'.cell? ⟨M + 1, 0, none⟩ = some (.slice ta2 x.s.toks.length tc2) ∧ w'.cell? ⟨M + 1, 1, none⟩ = some (.int .i64 x.s.at_) ∧ w'.cell? ⟨M + 1, 2, none⟩ = some (.slice oa2 x.s.opn.length oc2) ∧ w'.cell? ⟨M + 1, 3, none⟩ = some (.int .i64 x.s.wait)) (first | go_keep | exact S2) (first
      | (go_at_call 10; refine (CA.out _).mono ?_; rintro e w3 ⟨rfl, b3⟩; have B3 := Lib.hid (show Below Y.heap.size Y w3 from ⟨b3.os, b3.tape, b3.output, b3.size, b3.block⟩); have S2 := KS.out w3 B3.out; clear b3)
      | (go_at_call 15; refine (CR.out _ (afterL BY.out B3.out)).mono ?_; rintro e w4 ⟨ka4, kc4, ta4, tc4, oa4, oc4, rfl, k4, s4, b4⟩; have B4 := Lib.hid (afterL B3.out b4); have S2 := KS.out w4 B4.out; have MX := Lib.hid (CM.out _ _ _ _ _ _ w4 (KOn.below KY.out B4.out (Nat.le_refl _)) k4 (SY.out.below B4.out (Nat.le_refl _)) s4); clear k4 s4 b4)
      | (go_at_call 12; refine MX.out.mono ?_; rintro e w5 ⟨rfl, b5⟩; have B5 := Lib.hid (afterL B4.out b5); have S2 := KS.out w5 B5.out; clear b5))
    go_wp2_with fail
    go_ret
    exact ⟨rfl, afterL BY.out B5.out⟩
set_option maxRecDepth 1000000 in
set_option maxHeartbeats 4000000 in
theorem types_walk (v : Value) (s : Sx) (deep : Int) (w : World) (hv : StV w v s) :
    Calls Try.prog 5 #[v, .int .i64 deep] w fun e w' => e = .returned (.bool true) ∧ Below w.heap.size w w' := by
  obtain ⟨tv, ov, rfl, ht, ho⟩ := hv
  have hs : StOn w (fun _ => True) tv ov s := StOn.of ht ho (fun _ _ => trivial)
  obtain ⟨ta, tc, oa, oc, rfl, rfl⟩ := hs.len
  have HS := Lib.hid hs
  have CS : Hid (∀ W, Below w.heap.size w W → _) := fun W hW => tsmall_any (fun _ => True) (.slice ta s.toks.length tc) (.slice oa s.opn.length oc) s W (hs.below hW (Nat.le_refl _))
  have CA := Lib.hid (fun W => tawake_any W)
  unfold stV at CS
  clear ht ho hs
  cases hm : smallB s with
  | false =>
    rw [hm] at CS
    clear hm
    go_enter Try.func5, Try.ntmps5
    go_upto_region 1 with fail
    refine gen_world (fun X => Below w.heap.size w X ∧ Lies X w.heap.size (stB (.slice ta s.toks.length tc) s.at_ (.slice oa s.opn.length oc) s.wait)) ⟨below_one w _, Lies.new w _⟩ ?_
    rintro X ⟨bX, lX⟩
    obtain ⟨a0, a1, a2, a3⟩ := four_st lX
    have BX := Lib.hid bX
    clear bX lX HS
    go_wp2_with (first
      | (go_at_call 9; refine (CS.out _ BX.out).mono ?_; rintro e w1 ⟨rfl, b1⟩; have B1 := Lib.hid (afterL BX.out b1); clear b1)
      | (go_at_call 10; refine (CA.out _).mono ?_; rintro e w2 ⟨rfl, b2⟩; have B2 := Lib.hid (afterL B1.out b2); clear b2))
    go_ret
    exact ⟨rfl, B2.out⟩
  | true =>
    rw [hm] at CS
    have hf := small_fits hm
    have hfx : Fit9 (typeS s deep).s := (fits_typeS deep hf).nine big_le
    have CP : Hid (∀ W, Below w.heap.size w W → Calls Try.prog 16 #[stV (.slice ta s.toks.length tc) s.at_ (.slice oa s.opn.length oc) s.wait, .int .i64 deep] W (TOut (typeS s deep) (fun _ => True) W)) := fun W hW => prog_type deep (fun _ => True) _ _ s W (HS.out.below hW (Nat.le_refl _)) hf (fun _ _ => trivial)
    have CR : Hid (∀ W, Below w.heap.size w W → Calls Try.prog 17 #[stV (.slice ta s.toks.length tc) s.at_ (.slice oa s.opn.length oc) s.wait, .int .i64 deep] W (RdOut (typeS s deep) (fun _ => True) W.heap.size W)) := fun W hW => doc_type refnext_on deep (fun _ => True) _ _ s W (HS.out.below hW (Nat.le_refl _)) hf (fun _ _ => trivial)
    generalize typeS s deep = x at *
    have CM := Lib.hid (fun kv kv2 tv ov tv2 ov2 W a b c d => tsame_any x hfx (fun _ => True) kv kv2 tv ov tv2 ov2 W a b c d)
    unfold TOut ndV stV at CP
    unfold RdOut rdV stV at CR
    unfold ndV stV rdV at CM
    clear hm hf hfx HS
    go_enter Try.func5, Try.ntmps5
    go_upto_region 1 with fail
    refine gen_world (fun X => Below w.heap.size w X ∧ Lies X w.heap.size (stB (.slice ta s.toks.length tc) s.at_ (.slice oa s.opn.length oc) s.wait)) ⟨below_one w _, Lies.new w _⟩ ?_
    rintro X ⟨bX, lX⟩
    obtain ⟨a0, a1, a2, a3⟩ := four_st lX
    have BX := Lib.hid bX
    have LX := Lib.hid lX
    clear bX lX
    go_upto_region 4 with (first
      | (go_at_call 9; refine (CS.out _ BX.out).mono ?_; rintro e w1 ⟨rfl, b1⟩; have B1 := Lib.hid b1; clear a0 a1 a2 a3; obtain ⟨a0, a1, a2, a3⟩ := four_st (LX.out.below b1 LX.out.lt); clear b1)
      | (go_at_call 16; refine (CP.out _ (afterL BX.out B1.out)).mono ?_; rintro e w2 ⟨ka2, kc2, ta2, tc2, oa2, oc2, rfl, k2, s2, b2⟩; have B2 := Lib.hid (afterL B1.out b2); have K2 := Lib.hid k2; have S3 := Lib.hid s2; clear k2 s2 b2 a0 a1 a2 a3))
    refine gen_world (fun Y => Below w.heap.size w Y ∧ Lies Y w.heap.size (stB (.slice ta s.toks.length tc) s.at_ (.slice oa s.opn.length oc) s.wait) ∧ Lies Y w2.heap.size (ndO x.h (.slice ka2 (len x.k) kc2)) ∧ Lies Y (w2.heap.size + 1) (stB (.slice ta2 x.s.toks.length tc2) x.s.at_ (.slice oa2 x.s.opn.length oc2) x.s.wait) ∧ KOn Y (fun _ => True) (.slice ka2 (len x.k) kc2) x.k ∧ StOn Y (fun _ => True) (.slice ta2 x.s.toks.length tc2) (.slice oa2 x.s.opn.length oc2) x.s) ?_ ?_
    · have b4 := below_two' w2 (ndO x.h (.slice ka2 (len x.k) kc2)) (stB (.slice ta2 x.s.toks.length tc2) x.s.at_ (.slice oa2 x.s.opn.length oc2) x.s.wait)
      exact ⟨afterL BX.out (afterL B2.out b4), LX.out.below (afterL B2.out b4) LX.out.lt, (two_lie w2 _ _).1, (two_lie w2 _ _).2, KOn.below K2.out b4 (Nat.le_refl _), S3.out.below b4 (Nat.le_refl _)⟩
    rintro Y ⟨bY, lY, nY, tY, kY, sY⟩
    generalize w2.heap.size = M at *
    have KS : Hid (∀ w' : World, Below Y.heap.size Y w' → (w'.cell? ⟨w.heap.size, 0, none⟩ = some (.slice ta s.toks.length tc) ∧ w'.cell? ⟨w.heap.size, 1, none⟩ = some (.int .i64 s.at_) ∧ w'.cell? ⟨w.heap.size, 2, none⟩ = some (.slice oa s.opn.length oc) ∧ w'.cell? ⟨w.heap.size, 3, none⟩ = some (.int .i64 s.wait) ∧ w'.cell? ⟨M, 0, none⟩ = some (.int .i64 x.h.kind) ∧ w'.cell? ⟨M, 1, none⟩ = some (.int .i64 x.h.form) ∧ w'.cell? ⟨M, 2, none⟩ = some (.string x.h.text) ∧ w'.cell? ⟨M, 3, none⟩ = some (.int .i64 x.h.line) ∧ w'.cell? ⟨M, 4, none⟩ = some (.int .i64 x.h.col) ∧ w'.cell? ⟨M, 5, none⟩ = some (.slice ka2 (len x.k) kc2) ∧ w'.cell? ⟨M + 1, 0, none⟩ = some (.slice ta2 x.s.toks.length tc2) ∧ w'.cell? ⟨M + 1, 1, none⟩ = some (.int .i64 x.s.at_) ∧ w'.cell? ⟨M + 1, 2, none⟩ = some (.slice oa2 x.s.opn.length oc2) ∧ w'.cell? ⟨M + 1, 3, none⟩ = some (.int .i64 x.s.wait))) := by
      intro w' hw
      obtain ⟨a0, a1, a2, a3⟩ := four_st (lY.below hw lY.lt)
      obtain ⟨d0, d1, d2, d3, d4, d5⟩ := (nY.below hw nY.lt).node
      obtain ⟨q0, q1, q2, q3⟩ := four_st (tY.below hw tY.lt)
      exact ⟨a0, a1, a2, a3, d0, d1, d2, d3, d4, d5, q0, q1, q2, q3⟩
    obtain ⟨a0, a1, a2, a3⟩ := four_st lY
    obtain ⟨d0, d1, d2, d3, d4, d5⟩ := nY.node
    obtain ⟨q0, q1, q2, q3⟩ := four_st tY
    have BY := Lib.hid bY
    have KY := Lib.hid kY
    have SY := Lib.hid sY
    clear bY lY nY tY kY sY BX LX B2 K2 S3 CS CP
    go_region_held3 (fun w' => w'.cell? ⟨w.heap.size, 0, none⟩ = some (.slice ta s.toks.length tc) ∧ w'.cell? ⟨w.heap.size, 1, none⟩ = some (.int .i64 s.at_) ∧ w'.cell? ⟨w.heap.size, 2, none⟩ = some (.slice oa s.opn.length oc) ∧ w'.cell? ⟨w.heap.size, 3, none⟩ = some (.int .i64 s.wait) ∧ w'.cell? ⟨M, 0, none⟩ = some (.int .i64 x.h.kind) ∧ w'.cell? ⟨M, 1, none⟩ = some (.int .i64 x.h.form) ∧ w'.cell? ⟨M, 2, none⟩ = some (.string x.h.text) ∧ w'.cell? ⟨M, 3, none⟩ = some (.int .i64 x.h.line) ∧ w'.cell? ⟨M, 4, none⟩ = some (.int .i64 x.h.col) ∧ w'.cell? ⟨M, 5, none⟩ = some (.slice ka2 (len x.k) kc2) ∧ w'.cell? ⟨M + 1, 0, none⟩ = some (.slice ta2 x.s.toks.length tc2) ∧ w'.cell? ⟨M + 1, 1, none⟩ = some (.int .i64 x.s.at_) ∧ w'.cell? ⟨M + 1, 2, none⟩ = some (.slice oa2 x.s.opn.length oc2) ∧ w'.cell? ⟨M + 1, 3, none⟩ = some (.int .i64 x.s.wait)) (first | go_keep | exact S2) (first
      | (go_at_call 10; refine (CA.out _).mono ?_; rintro e w3 ⟨rfl, b3⟩; have B3 := Lib.hid (show Below Y.heap.size Y w3 from ⟨b3.os, b3.tape, b3.output, b3.size, b3.block⟩); have S2 := KS.out w3 B3.out; clear b3)
      | (go_at_call 17; refine (CR.out _ (afterL BY.out B3.out)).mono ?_; rintro e w4 ⟨ka4, kc4, ta4, tc4, oa4, oc4, rfl, k4, s4, b4⟩; have B4 := Lib.hid (afterL B3.out b4); have S2 := KS.out w4 B4.out; have MX := Lib.hid (CM.out _ _ _ _ _ _ w4 (KOn.below KY.out B4.out (Nat.le_refl _)) k4 (SY.out.below B4.out (Nat.le_refl _)) s4); clear k4 s4 b4)
      | (go_at_call 12; refine MX.out.mono ?_; rintro e w5 ⟨rfl, b5⟩; have B5 := Lib.hid (afterL B4.out b5); have S2 := KS.out w5 B5.out; clear b5))
    go_wp2_with fail
    go_ret
    exact ⟨rfl, afterL BY.out B5.out⟩
set_option maxRecDepth 1000000 in
set_option maxHeartbeats 4000000 in
theorem fulls_walk (v : Value) (s : Sx) (deep : Int) (w : World) (hv : StV w v s) :
    Calls Try.prog 6 #[v, .int .i64 deep] w fun e w' => e = .returned (.bool true) ∧ Below w.heap.size w w' := by
  obtain ⟨tv, ov, rfl, ht, ho⟩ := hv
  have hs : StOn w (fun _ => True) tv ov s := StOn.of ht ho (fun _ _ => trivial)
  obtain ⟨ta, tc, oa, oc, rfl, rfl⟩ := hs.len
  have HS := Lib.hid hs
  have CS : Hid (∀ W, Below w.heap.size w W → _) := fun W hW => tsmall_any (fun _ => True) (.slice ta s.toks.length tc) (.slice oa s.opn.length oc) s W (hs.below hW (Nat.le_refl _))
  have CA := Lib.hid (fun W => tawake_any W)
  unfold stV at CS
  clear ht ho hs
  cases hm : smallB s with
  | false =>
    rw [hm] at CS
    clear hm
    go_enter Try.func6, Try.ntmps6
    go_upto_region 1 with fail
    refine gen_world (fun X => Below w.heap.size w X ∧ Lies X w.heap.size (stB (.slice ta s.toks.length tc) s.at_ (.slice oa s.opn.length oc) s.wait)) ⟨below_one w _, Lies.new w _⟩ ?_
    rintro X ⟨bX, lX⟩
    obtain ⟨a0, a1, a2, a3⟩ := four_st lX
    have BX := Lib.hid bX
    clear bX lX HS
    go_wp2_with (first
      | (go_at_call 9; refine (CS.out _ BX.out).mono ?_; rintro e w1 ⟨rfl, b1⟩; have B1 := Lib.hid (afterL BX.out b1); clear b1)
      | (go_at_call 10; refine (CA.out _).mono ?_; rintro e w2 ⟨rfl, b2⟩; have B2 := Lib.hid (afterL B1.out b2); clear b2))
    go_ret
    exact ⟨rfl, B2.out⟩
  | true =>
    rw [hm] at CS
    have hf := small_fits hm
    have hfx : Fit9 (fullS s deep).s := (fits_fullS deep hf).nine big_le
    have CP : Hid (∀ W, Below w.heap.size w W → Calls Try.prog 18 #[stV (.slice ta s.toks.length tc) s.at_ (.slice oa s.opn.length oc) s.wait, .int .i64 deep] W (TOut (fullS s deep) (fun _ => True) W)) := fun W hW => prog_full deep (fun _ => True) _ _ s W (HS.out.below hW (Nat.le_refl _)) hf (fun _ _ => trivial)
    have CR : Hid (∀ W, Below w.heap.size w W → Calls Try.prog 19 #[stV (.slice ta s.toks.length tc) s.at_ (.slice oa s.opn.length oc) s.wait, .int .i64 deep] W (RdOut (fullS s deep) (fun _ => True) W.heap.size W)) := fun W hW => doc_full refnext_on deep (fun _ => True) _ _ s W (HS.out.below hW (Nat.le_refl _)) hf (fun _ _ => trivial)
    generalize fullS s deep = x at *
    have CM := Lib.hid (fun kv kv2 tv ov tv2 ov2 W a b c d => tsame_any x hfx (fun _ => True) kv kv2 tv ov tv2 ov2 W a b c d)
    unfold TOut ndV stV at CP
    unfold RdOut rdV stV at CR
    unfold ndV stV rdV at CM
    clear hm hf hfx HS
    go_enter Try.func6, Try.ntmps6
    go_upto_region 1 with fail
    refine gen_world (fun X => Below w.heap.size w X ∧ Lies X w.heap.size (stB (.slice ta s.toks.length tc) s.at_ (.slice oa s.opn.length oc) s.wait)) ⟨below_one w _, Lies.new w _⟩ ?_
    rintro X ⟨bX, lX⟩
    obtain ⟨a0, a1, a2, a3⟩ := four_st lX
    have BX := Lib.hid bX
    have LX := Lib.hid lX
    clear bX lX
    go_upto_region 4 with (first
      | (go_at_call 9; refine (CS.out _ BX.out).mono ?_; rintro e w1 ⟨rfl, b1⟩; have B1 := Lib.hid b1; clear a0 a1 a2 a3; obtain ⟨a0, a1, a2, a3⟩ := four_st (LX.out.below b1 LX.out.lt); clear b1)
      | (go_at_call 18; refine (CP.out _ (afterL BX.out B1.out)).mono ?_; rintro e w2 ⟨ka2, kc2, ta2, tc2, oa2, oc2, rfl, k2, s2, b2⟩; have B2 := Lib.hid (afterL B1.out b2); have K2 := Lib.hid k2; have S3 := Lib.hid s2; clear k2 s2 b2 a0 a1 a2 a3))
    refine gen_world (fun Y => Below w.heap.size w Y ∧ Lies Y w.heap.size (stB (.slice ta s.toks.length tc) s.at_ (.slice oa s.opn.length oc) s.wait) ∧ Lies Y w2.heap.size (ndO x.h (.slice ka2 (len x.k) kc2)) ∧ Lies Y (w2.heap.size + 1) (stB (.slice ta2 x.s.toks.length tc2) x.s.at_ (.slice oa2 x.s.opn.length oc2) x.s.wait) ∧ KOn Y (fun _ => True) (.slice ka2 (len x.k) kc2) x.k ∧ StOn Y (fun _ => True) (.slice ta2 x.s.toks.length tc2) (.slice oa2 x.s.opn.length oc2) x.s) ?_ ?_
    · have b4 := below_two' w2 (ndO x.h (.slice ka2 (len x.k) kc2)) (stB (.slice ta2 x.s.toks.length tc2) x.s.at_ (.slice oa2 x.s.opn.length oc2) x.s.wait)
      exact ⟨afterL BX.out (afterL B2.out b4), LX.out.below (afterL B2.out b4) LX.out.lt, (two_lie w2 _ _).1, (two_lie w2 _ _).2, KOn.below K2.out b4 (Nat.le_refl _), S3.out.below b4 (Nat.le_refl _)⟩
    rintro Y ⟨bY, lY, nY, tY, kY, sY⟩
    generalize w2.heap.size = M at *
    have KS : Hid (∀ w' : World, Below Y.heap.size Y w' → (w'.cell? ⟨w.heap.size, 0, none⟩ = some (.slice ta s.toks.length tc) ∧ w'.cell? ⟨w.heap.size, 1, none⟩ = some (.int .i64 s.at_) ∧ w'.cell? ⟨w.heap.size, 2, none⟩ = some (.slice oa s.opn.length oc) ∧ w'.cell? ⟨w.heap.size, 3, none⟩ = some (.int .i64 s.wait) ∧ w'.cell? ⟨M, 0, none⟩ = some (.int .i64 x.h.kind) ∧ w'.cell? ⟨M, 1, none⟩ = some (.int .i64 x.h.form) ∧ w'.cell? ⟨M, 2, none⟩ = some (.string x.h.text) ∧ w'.cell? ⟨M, 3, none⟩ = some (.int .i64 x.h.line) ∧ w'.cell? ⟨M, 4, none⟩ = some (.int .i64 x.h.col) ∧ w'.cell? ⟨M, 5, none⟩ = some (.slice ka2 (len x.k) kc2) ∧ w'.cell? ⟨M + 1, 0, none⟩ = some (.slice ta2 x.s.toks.length tc2) ∧ w'.cell? ⟨M + 1, 1, none⟩ = some (.int .i64 x.s.at_) ∧ w'.cell? ⟨M + 1, 2, none⟩ = some (.slice oa2 x.s.opn.length oc2) ∧ w'.cell? ⟨M + 1, 3, none⟩ = some (.int .i64 x.s.wait))) := by
      intro w' hw
      obtain ⟨a0, a1, a2, a3⟩ := four_st (lY.below hw lY.lt)
      obtain ⟨d0, d1, d2, d3, d4, d5⟩ := (nY.below hw nY.lt).node
      obtain ⟨q0, q1, q2, q3⟩ := four_st (tY.below hw tY.lt)
      exact ⟨a0, a1, a2, a3, d0, d1, d2, d3, d4, d5, q0, q1, q2, q3⟩
    obtain ⟨a0, a1, a2, a3⟩ := four_st lY
    obtain ⟨d0, d1, d2, d3, d4, d5⟩ := nY.node
    obtain ⟨q0, q1, q2, q3⟩ := four_st tY
    have BY := Lib.hid bY
    have KY := Lib.hid kY
    have SY := Lib.hid sY
    clear bY lY nY tY kY sY BX LX B2 K2 S3 CS CP
    go_region_held3 (fun w' => w'.cell? ⟨w.heap.size, 0, none⟩ = some (.slice ta s.toks.length tc) ∧ w'.cell? ⟨w.heap.size, 1, none⟩ = some (.int .i64 s.at_) ∧ w'.cell? ⟨w.heap.size, 2, none⟩ = some (.slice oa s.opn.length oc) ∧ w'.cell? ⟨w.heap.size, 3, none⟩ = some (.int .i64 s.wait) ∧ w'.cell? ⟨M, 0, none⟩ = some (.int .i64 x.h.kind) ∧ w'.cell? ⟨M, 1, none⟩ = some (.int .i64 x.h.form) ∧ w'.cell? ⟨M, 2, none⟩ = some (.string x.h.text) ∧ w'.cell? ⟨M, 3, none⟩ = some (.int .i64 x.h.line) ∧ w'.cell? ⟨M, 4, none⟩ = some (.int .i64 x.h.col) ∧ w'.cell? ⟨M, 5, none⟩ = some (.slice ka2 (len x.k) kc2) ∧ w'.cell? ⟨M + 1, 0, none⟩ = some (.slice ta2 x.s.toks.length tc2) ∧ w'.cell? ⟨M + 1, 1, none⟩ = some (.int .i64 x.s.at_) ∧ w'.cell? ⟨M + 1, 2, none⟩ = some (.slice oa2 x.s.opn.length oc2) ∧ w'.cell? ⟨M + 1, 3, none⟩ = some (.int .i64 x.s.wait)) (first | go_keep | exact S2) (first
      | (go_at_call 10; refine (CA.out _).mono ?_; rintro e w3 ⟨rfl, b3⟩; have B3 := Lib.hid (show Below Y.heap.size Y w3 from ⟨b3.os, b3.tape, b3.output, b3.size, b3.block⟩); have S2 := KS.out w3 B3.out; clear b3)
      | (go_at_call 19; refine (CR.out _ (afterL BY.out B3.out)).mono ?_; rintro e w4 ⟨ka4, kc4, ta4, tc4, oa4, oc4, rfl, k4, s4, b4⟩; have B4 := Lib.hid (afterL B3.out b4); have S2 := KS.out w4 B4.out; have MX := Lib.hid (CM.out _ _ _ _ _ _ w4 (KOn.below KY.out B4.out (Nat.le_refl _)) k4 (SY.out.below B4.out (Nat.le_refl _)) s4); clear k4 s4 b4)
      | (go_at_call 12; refine MX.out.mono ?_; rintro e w5 ⟨rfl, b5⟩; have B5 := Lib.hid (afterL B4.out b5); have S2 := KS.out w5 B5.out; clear b5))
    go_wp2_with fail
    go_ret
    exact ⟨rfl, afterL BY.out B5.out⟩
end Go.Proofs.Ytmgclgojmckfhaa.Typ
