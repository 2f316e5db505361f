/-
  The document's atom. Conditions: what the document's Next and Type do, and sizes that are borne.
-/
import Derived.Test.YtmgclgojmckfhaaZAte
import Derived.Test.YtmgclgojmckfhaaZAtf
import Derived.Test.YtmgclgojmckfhaaZFul
import Derived.Test.YtmgclgojmckfhaaZNxm
namespace Go.Proofs.Ytmgclgojmckfhaa.Typ
open Tks Tre Go.RowKit
open Lay (Sx StV Fit9 nextS NextOut tkV9 IntArg)
set_option linter.unusedSimpArgs false
set_option linter.unusedVariables false

theorem atom_any {N : Nat} (hN : N ≤ 1099511627776) (hN2 : 12 * N + 20 ≤ 1099511627776) (R : NextOn 59) (T : Sx → Rd) (hTF : ∀ s, Fits N s → Fits N (T s).s) (hTL : ∀ s, Lv s (T s)) (deep deep1 : Int) (hd : IntKind.i64.wrap (deep - 1) = deep1) (CTY : ∀ (P : Nat → Prop) (tv ov : Value) (s : Sx) (W : World), StOn W P tv ov s → Fits N s → (∀ b, W.heap.size ≤ b → P b) → Calls Try.prog 17 #[stV tv s.at_ ov s.wait, .int .i64 deep1] W (RdOut (T s) P W.heap.size W)) (P : Nat → Prop) (tv ov : Value) (s : Sx) (w : World) (hs : StOn w P tv ov s) (hf : Fits N s) (hP : ∀ b, w.heap.size ≤ b → P b) :
    Calls Try.prog 31 #[stV tv s.at_ ov s.wait, .int .i64 deep] w (RdOut (atomR T s) P w.heap.size w) := by
  by_cases h0 : (takeR s).e = 0
  · cases h1 : startsB (tk s) with
    | false => exact atom_b hN hN2 R T deep P tv ov s w hs hf hP h0 h1
    | true =>
      by_cases h2 : (tk s).kind = 15
      · by_cases h3 : (tk s).text.data.toList = [40]
        · exact atom_c hN hN2 R T hTF hTL deep deep1 hd CTY P tv ov s w hs hf hP h0 h1 ⟨h2, h3⟩
        · have h4 : (tk s).text.data.toList = [91] := by
            unfold startsB at h1
            rw [h2] at h1
            simpa [h3] using h1
          cases hb : isR (takeR s).s 15 [93] with
          | true => exact atom_e hN hN2 R T hTF hTL deep deep1 hd CTY P tv ov s w hs hf hP h0 h1 ⟨h2, h4⟩ hb
          | false => exact atom_f hN hN2 R T hTF hTL deep deep1 hd CTY P tv ov s w hs hf hP h0 h1 ⟨h2, h4⟩ hb
      · exact atom_d hN hN2 R T deep P tv ov s w hs hf hP h0 h1 h2
  · exact atom_a hN hN2 R T deep P tv ov s w hs hf hP h0
end Go.Proofs.Ytmgclgojmckfhaa.Typ
/-
  What the document's Atom, Row, Type, Full answer. Conditions: what the document's Next does; at most 2^35 tokens and blocks.
-/
namespace Go.Proofs.Ytmgclgojmckfhaa.Typ
open Tks Tre Go.RowKit
open Lay (Sx StV Fit9 nextS NextOut tkV9 IntArg)
set_option linter.unusedSimpArgs false
set_option linter.unusedVariables false

set_option maxRecDepth 1000000 in
set_option maxHeartbeats 1000000 in
theorem atom_low (deep : Int) (h0 : deep < 1) (P : Nat → Prop) (tv ov : Value) (s : Sx) (w : World) (hs : StOn w P tv ov s) :
    Calls Try.prog 13 #[stV tv s.at_ ov s.wait, .int .i64 deep] w (RdOut (errR s 2) P w.heap.size w) := by
  obtain ⟨ta, tc, oa, oc, rfl, rfl⟩ := hs.len
  have CD := Lib.hid (fun Q W h => deepr_any Q (.slice ta s.toks.length tc) (.slice oa s.opn.length oc) s W h)
  unfold RdOut rdV at CD
  unfold stV at CD
  unfold stV
  have HS := Lib.hid hs
  have d0 : decide (deep < 1) = true := decide_eq_true h0
  clear hs h0
  go_enter Try.func13, Try.ntmps13
  go_upto_region 1 with fail
  refine gen_world (fun X => Below w.heap.size w X ∧ Lies X w.heap.size (stB (.slice ta s.toks.length tc) s.at_ (.slice oa s.opn.length oc) s.wait) ∧ Lies X (w.heap.size + 1) kRd) ⟨below_two' w _ _, (two_lie w _ _).1, (two_lie w _ _).2⟩ ?_
  rintro X ⟨bX, lX, rX⟩
  have nR : Hid (w.heap.size < w.heap.size + 1) := Nat.lt_succ_self _
  generalize w.heap.size + 1 = R2 at *
  have OX := HS.out.into (l := [w.heap.size, R2]) bX (by have := nR.out; simp; omega)
  obtain ⟨a0, a1, a2, a3⟩ := four_st lX
  have BX := Lib.hid bX
  have RX := Lib.hid rX
  have DX := Lib.hid (CD.out _ X OX)
  clear bX lX rX OX
  go_wp2_with (first
    | (go_at_call 29; refine DX.out.mono ?_; rintro e w2 ⟨ka2, kc2, ta2, tc2, oa2, oc2, rfl, k2, s2, b2⟩; have B2 := Lib.hid b2; have K2 := Lib.hid k2; have S2 := Lib.hid s2; have r9 := RX.out.below b2 RX.out.lt; clear b2 k2 s2; unfold kRd at r9; obtain ⟨f0, f1, f2, f3, f4, f5, f6, f7, f8, f9, f10⟩ := free11 r9; obtain ⟨e0, e1, e2, e3, e4, e5, e6, e7, e8, e9, e10⟩ := eleven r9; dsimp only [zeroN] at e0 e1 e2 e3 e4; have R9 := Lib.hid r9; clear r9))
  refine bodyPost_ret (res_rd Try.results13 rfl (set11_lies R9.out (errR s 2).h (.slice ka2 (len (errR s 2).k) kc2) (.slice ta2 (errR s 2).s.toks.length tc2) (errR s 2).s.at_ (.slice oa2 (errR s 2).s.opn.length oc2) (errR s 2).s.wait (errR s 2).e)) rfl ?_
  exact rd_done (afterL BX.out B2.out) (Nat.le_of_lt nR.out) K2.out S2.out (fun b hb q => ⟨q.1, fun e => q.2 (by rw [e]; simp)⟩)
set_option maxRecDepth 1000000 in
set_option maxHeartbeats 1000000 in
theorem row_low (deep : Int) (h0 : deep < 1) (P : Nat → Prop) (tv ov : Value) (s : Sx) (w : World) (hs : StOn w P tv ov s) :
    Calls Try.prog 15 #[stV tv s.at_ ov s.wait, .int .i64 deep] w (RdOut (errR s 2) P w.heap.size w) := by
  obtain ⟨ta, tc, oa, oc, rfl, rfl⟩ := hs.len
  have CD := Lib.hid (fun Q W h => deepr_any Q (.slice ta s.toks.length tc) (.slice oa s.opn.length oc) s W h)
  unfold RdOut rdV at CD
  unfold stV at CD
  unfold stV
  have HS := Lib.hid hs
  have d0 : decide (deep < 1) = true := decide_eq_true h0
  clear hs h0
  go_enter Try.func15, Try.ntmps15
  go_upto_region 1 with fail
  refine gen_world (fun X => Below w.heap.size w X ∧ Lies X w.heap.size (stB (.slice ta s.toks.length tc) s.at_ (.slice oa s.opn.length oc) s.wait) ∧ Lies X (w.heap.size + 1) kRd) ⟨below_two' w _ _, (two_lie w _ _).1, (two_lie w _ _).2⟩ ?_
  rintro X ⟨bX, lX, rX⟩
  have nR : Hid (w.heap.size < w.heap.size + 1) := Nat.lt_succ_self _
  generalize w.heap.size + 1 = R2 at *
  have OX := HS.out.into (l := [w.heap.size, R2]) bX (by have := nR.out; simp; omega)
  obtain ⟨a0, a1, a2, a3⟩ := four_st lX
  have BX := Lib.hid bX
  have RX := Lib.hid rX
  have DX := Lib.hid (CD.out _ X OX)
  clear bX lX rX OX
  go_wp2_with (first
    | (go_at_call 29; refine DX.out.mono ?_; rintro e w2 ⟨ka2, kc2, ta2, tc2, oa2, oc2, rfl, k2, s2, b2⟩; have B2 := Lib.hid b2; have K2 := Lib.hid k2; have S2 := Lib.hid s2; have r9 := RX.out.below b2 RX.out.lt; clear b2 k2 s2; unfold kRd at r9; obtain ⟨f0, f1, f2, f3, f4, f5, f6, f7, f8, f9, f10⟩ := free11 r9; obtain ⟨e0, e1, e2, e3, e4, e5, e6, e7, e8, e9, e10⟩ := eleven r9; dsimp only [zeroN] at e0 e1 e2 e3 e4; have R9 := Lib.hid r9; clear r9))
  refine bodyPost_ret (res_rd Try.results15 rfl (set11_lies R9.out (errR s 2).h (.slice ka2 (len (errR s 2).k) kc2) (.slice ta2 (errR s 2).s.toks.length tc2) (errR s 2).s.at_ (.slice oa2 (errR s 2).s.opn.length oc2) (errR s 2).s.wait (errR s 2).e)) rfl ?_
  exact rd_done (afterL BX.out B2.out) (Nat.le_of_lt nR.out) K2.out S2.out (fun b hb q => ⟨q.1, fun e => q.2 (by rw [e]; simp)⟩)
set_option maxRecDepth 1000000 in
set_option maxHeartbeats 1000000 in
theorem type_low (deep : Int) (h0 : deep < 1) (P : Nat → Prop) (tv ov : Value) (s : Sx) (w : World) (hs : StOn w P tv ov s) :
    Calls Try.prog 17 #[stV tv s.at_ ov s.wait, .int .i64 deep] w (RdOut (errR s 2) P w.heap.size w) := by
  obtain ⟨ta, tc, oa, oc, rfl, rfl⟩ := hs.len
  have CD := Lib.hid (fun Q W h => deepr_any Q (.slice ta s.toks.length tc) (.slice oa s.opn.length oc) s W h)
  unfold RdOut rdV at CD
  unfold stV at CD
  unfold stV
  have HS := Lib.hid hs
  have d0 : decide (deep < 1) = true := decide_eq_true h0
  clear hs h0
  go_enter Try.func17, Try.ntmps17
  go_upto_region 1 with fail
  refine gen_world (fun X => Below w.heap.size w X ∧ Lies X w.heap.size (stB (.slice ta s.toks.length tc) s.at_ (.slice oa s.opn.length oc) s.wait) ∧ Lies X (w.heap.size + 1) kRd) ⟨below_two' w _ _, (two_lie w _ _).1, (two_lie w _ _).2⟩ ?_
  rintro X ⟨bX, lX, rX⟩
  have nR : Hid (w.heap.size < w.heap.size + 1) := Nat.lt_succ_self _
  generalize w.heap.size + 1 = R2 at *
  have OX := HS.out.into (l := [w.heap.size, R2]) bX (by have := nR.out; simp; omega)
  obtain ⟨a0, a1, a2, a3⟩ := four_st lX
  have BX := Lib.hid bX
  have RX := Lib.hid rX
  have DX := Lib.hid (CD.out _ X OX)
  clear bX lX rX OX
  go_wp2_with (first
    | (go_at_call 29; refine DX.out.mono ?_; rintro e w2 ⟨ka2, kc2, ta2, tc2, oa2, oc2, rfl, k2, s2, b2⟩; have B2 := Lib.hid b2; have K2 := Lib.hid k2; have S2 := Lib.hid s2; have r9 := RX.out.below b2 RX.out.lt; clear b2 k2 s2; unfold kRd at r9; obtain ⟨f0, f1, f2, f3, f4, f5, f6, f7, f8, f9, f10⟩ := free11 r9; obtain ⟨e0, e1, e2, e3, e4, e5, e6, e7, e8, e9, e10⟩ := eleven r9; dsimp only [zeroN] at e0 e1 e2 e3 e4; have R9 := Lib.hid r9; clear r9))
  refine bodyPost_ret (res_rd Try.results17 rfl (set11_lies R9.out (errR s 2).h (.slice ka2 (len (errR s 2).k) kc2) (.slice ta2 (errR s 2).s.toks.length tc2) (errR s 2).s.at_ (.slice oa2 (errR s 2).s.opn.length oc2) (errR s 2).s.wait (errR s 2).e)) rfl ?_
  exact rd_done (afterL BX.out B2.out) (Nat.le_of_lt nR.out) K2.out S2.out (fun b hb q => ⟨q.1, fun e => q.2 (by rw [e]; simp)⟩)
set_option maxRecDepth 1000000 in
set_option maxHeartbeats 1000000 in
theorem full_low (deep : Int) (h0 : deep < 1) (P : Nat → Prop) (tv ov : Value) (s : Sx) (w : World) (hs : StOn w P tv ov s) :
    Calls Try.prog 19 #[stV tv s.at_ ov s.wait, .int .i64 deep] w (RdOut (errR s 2) P w.heap.size w) := by
  obtain ⟨ta, tc, oa, oc, rfl, rfl⟩ := hs.len
  have CD := Lib.hid (fun Q W h => deepr_any Q (.slice ta s.toks.length tc) (.slice oa s.opn.length oc) s W h)
  unfold RdOut rdV at CD
  unfold stV at CD
  unfold stV
  have HS := Lib.hid hs
  have d0 : decide (deep < 1) = true := decide_eq_true h0
  clear hs h0
  go_enter Try.func19, Try.ntmps19
  go_upto_region 1 with fail
  refine gen_world (fun X => Below w.heap.size w X ∧ Lies X w.heap.size (stB (.slice ta s.toks.length tc) s.at_ (.slice oa s.opn.length oc) s.wait) ∧ Lies X (w.heap.size + 1) kRd) ⟨below_two' w _ _, (two_lie w _ _).1, (two_lie w _ _).2⟩ ?_
  rintro X ⟨bX, lX, rX⟩
  have nR : Hid (w.heap.size < w.heap.size + 1) := Nat.lt_succ_self _
  generalize w.heap.size + 1 = R2 at *
  have OX := HS.out.into (l := [w.heap.size, R2]) bX (by have := nR.out; simp; omega)
  obtain ⟨a0, a1, a2, a3⟩ := four_st lX
  have BX := Lib.hid bX
  have RX := Lib.hid rX
  have DX := Lib.hid (CD.out _ X OX)
  clear bX lX rX OX
  go_wp2_with (first
    | (go_at_call 29; refine DX.out.mono ?_; rintro e w2 ⟨ka2, kc2, ta2, tc2, oa2, oc2, rfl, k2, s2, b2⟩; have B2 := Lib.hid b2; have K2 := Lib.hid k2; have S2 := Lib.hid s2; have r9 := RX.out.below b2 RX.out.lt; clear b2 k2 s2; unfold kRd at r9; obtain ⟨f0, f1, f2, f3, f4, f5, f6, f7, f8, f9, f10⟩ := free11 r9; obtain ⟨e0, e1, e2, e3, e4, e5, e6, e7, e8, e9, e10⟩ := eleven r9; dsimp only [zeroN] at e0 e1 e2 e3 e4; have R9 := Lib.hid r9; clear r9))
  refine bodyPost_ret (res_rd Try.results19 rfl (set11_lies R9.out (errR s 2).h (.slice ka2 (len (errR s 2).k) kc2) (.slice ta2 (errR s 2).s.toks.length tc2) (errR s 2).s.at_ (.slice oa2 (errR s 2).s.opn.length oc2) (errR s 2).s.wait (errR s 2).e)) rfl ?_
  exact rd_done (afterL BX.out B2.out) (Nat.le_of_lt nR.out) K2.out S2.out (fun b hb q => ⟨q.1, fun e => q.2 (by rw [e]; simp)⟩)
/-- The sizes that are borne. -/
def big : Nat := 34359738368
theorem atom_steps {T : Sx → Rd} (hT : ∀ s, Lv s (T s)) (s : Sx) : Lv s (atomR T s) := atom_lv hT s
theorem leaves_push_ne (l : Fo) (x : Rd) (h : leavesF l ≠ []) : leavesF (pushF l x) ≠ [] := by
  rw [leavesF_push]
  exact List.append_ne_nil_of_left_ne_nil h _
theorem take_ne {s : Sx} (h : (takeR s).e = 0) : leavesN (takeR s).h (takeR s).k ≠ [] := by
  rw [take_ok h]
  unfold leavesN leafH
  rw [if_pos rfl]
  simp
theorem one_ne {x : Rd} (h : leavesN x.h x.k ≠ []) : leavesF (oneF x) ≠ [] := by
  rw [leavesF_one]
  exact h
theorem close_ne {kind : Int} (hk : kind ≠ 1) (c : UInt8) {l : Fo} (s : Sx) (h : leavesF l ≠ []) (he : (closeR kind c l s).e = 0) : leavesN (closeR kind c l s).h (closeR kind c l s).k ≠ [] := by
  unfold closeR at he ⊢
  split at he
  · rename_i hw
    rw [if_pos hw, leavesN_node hk]
    exact leaves_push_ne _ _ h
  · rename_i hw
    exact absurd he hw
theorem commas_ne : ∀ (f : Nat) (l : Fo) (s : Sx), leavesF l ≠ [] → (commasR f l s).e = 0 → leavesN (commasR f l s).h (commasR f l s).k ≠ []
  | 0, l, s, h, he => absurd he (by decide : ¬ (-1 : Int) = 0)
  | f + 1, l, s, h, he => by
    unfold commasR at he ⊢
    split
    · rename_i hi
      rw [if_pos hi] at he
      exact commas_ne f _ _ (leaves_push_ne _ _ h) he
    · rename_i hi
      rw [if_neg hi] at he
      exact close_ne (by decide) 41 s h he
theorem types_ne {T : Sx → Rd} : ∀ (f : Nat) (kind : Int) (l : Fo) (s : Sx), kind ≠ 1 → leavesF l ≠ [] → (typesR T f kind l s).e = 0 → leavesN (typesR T f kind l s).h (typesR T f kind l s).k ≠ []
  | 0, kind, l, s, hk, h, he => absurd he (by decide : ¬ (-1 : Int) = 0)
  | f + 1, kind, l, s, hk, h, he => by
    unfold typesR at he ⊢
    split
    · rename_i ht
      rw [if_pos ht] at he
      split
      · rename_i hi
        rw [if_pos hi] at he
        exact types_ne f 5 _ _ (by decide) (leaves_push_ne _ _ (leaves_push_ne _ _ h)) he
      · rename_i hi
        rw [if_neg hi] at he
        exact close_ne hk 41 _ (leaves_push_ne _ _ h) he
    · rename_i ht
      rw [if_neg ht] at he
      exact absurd he ht
theorem atom_ne (T : Sx → Rd) : Ne (atomR T) := by
  intro s he
  unfold atomR at he ⊢
  split
  · rename_i h0
    rw [if_pos h0] at he
    have h1 := one_ne (take_ne h0)
    split
    · rename_i h2
      rw [if_pos h2] at he
      split
      · rename_i h3
        rw [if_pos h3] at he
        unfold roundR at he ⊢
        split
        · rename_i h4
          rw [if_pos h4] at he
          exact commas_ne _ _ _ h1 he
        · rename_i h4
          rw [if_neg h4] at he
          split
          · rename_i h5
            rw [if_pos h5] at he
            exact close_ne (by decide) 41 _ (leaves_push_ne _ _ h1) he
          · rename_i h5
            rw [if_neg h5] at he
            exact types_ne _ _ _ _ (by decide) h1 he
      · rename_i h3
        rw [if_neg h3] at he
        split
        · rename_i h4
          rw [if_pos h4] at he
          unfold squareR at he ⊢
          split
          · rename_i h5
            rw [if_pos h5] at he
            exact close_ne (by decide) 93 _ h1 he
          · rename_i h5
            rw [if_neg h5] at he
            split
            · rename_i h6
              rw [if_pos h6] at he
              exact close_ne (by decide) 93 _ (leaves_push_ne _ _ h1) he
            · rename_i h6
              rw [if_neg h6] at he
              exact absurd he h6
        · exact take_ne h0
    · rename_i h2
      rw [if_neg h2] at he
      exact absurd he (bad_ne s)
  · rename_i h0
    rw [if_neg h0] at he
    exact absurd he h0
theorem rowF_ne {A : Sx → Rd} (hA : Ne A) : ∀ (f : Nat) (l : Fo) (x : Rd), leavesF l ≠ [] ∨ x.e ≠ 0 → (x.e = 0 → leavesN x.h x.k ≠ []) → (rowF A f l x).e = 0 → leavesN (rowF A f l x).h (rowF A f l x).k ≠ []
  | 0, l, x, h, h1, he => by
    unfold rowF at he ⊢
    split
    · rename_i hx
      rw [if_pos hx] at he
      exact absurd he (by decide : ¬ (-1 : Int) = 0)
    · rename_i hx
      rw [if_neg hx] at he
      exact absurd he hx
  | f + 1, l, x, h, h1, he => by
    unfold rowF at he ⊢
    split
    · rename_i hx
      rw [if_pos hx] at he
      have hl : leavesF l ≠ [] := h.resolve_right (fun q => q hx)
      split
      · rename_i h2
        rw [if_pos h2] at he
        exact rowF_ne hA f _ _ (.inl (leaves_push_ne _ _ hl)) (fun q => hA _ q) he
      · rename_i h2
        rw [if_neg h2] at he
        split
        · rw [leavesN_node (by decide)]
          exact hl
        · exact h1 hx
    · rename_i hx
      rw [if_neg hx] at he
      exact absurd he hx
theorem row_ne {A : Sx → Rd} (hA : Ne A) : Ne (rowR A) := by
  intro s he
  unfold rowR at he ⊢
  refine rowF_ne hA _ _ _ ?_ (hA s) he
  by_cases h : (A s).e = 0
  · exact .inl (one_ne (hA s h))
  · exact .inr h
/-- What is wanted at a depth, of the document's functions. -/
def TyC (n : Int) (T : Sx → Rd) : Prop := ∀ (P : Nat → Prop) (tv ov : Value) (s : Sx) (W : World), StOn W P tv ov s → Fits big s → (∀ b, W.heap.size ≤ b → P b) → Calls Try.prog 17 #[stV tv s.at_ ov s.wait, .int .i64 n] W (RdOut (T s) P W.heap.size W)
theorem big_le : big ≤ 1099511627776 := by decide
theorem big_le2 : 20 * big + 20 ≤ 1099511627776 := by decide
theorem rown_le {T : Sx → Rd} (hT : ∀ s, Lv s (T s)) {s : Sx} (hf : Fits big s) (h : (rowR (atomR T) s).e = 0) : lf (rowR (atomR T) s).s ≤ 6 * big + 2 :=
  lv_lf hf (row_lv (fun s => atom_lv hT s) s h) (row_ne (atom_ne T) s h)
theorem wrap_pred {n : Nat} (h : n ≤ 100) : IntKind.i64.wrap (((n + 1 : Nat) : Int) - 1) = (n : Int) := IntWalk.i64_in _ (by omega) |>.trans (by omega)
theorem lim_nat {n : Nat} (h : n ≤ 100) : lim (n : Int) = n := by
  unfold lim
  omega
/-- The depth that counts. -/
theorem lim_pos {deep : Int} (h : ¬ deep < 1) : ∃ n : Nat, n ≤ 99 ∧ lim deep = n + 1 := ⟨lim deep - 1, by unfold lim; omega, by unfold lim; omega⟩
section
variable (R : NextOn 59)
include R
theorem atom_doc {T : Sx → Rd} (hTF : ∀ s, Fits big s → Fits big (T s).s) (hTL : ∀ s, Lv s (T s)) {n n1 : Int} (hn : IntKind.i64.wrap (n - 1) = n1) (CT : TyC n1 T) (P : Nat → Prop) (tv ov : Value) (s : Sx) (W : World) (hs : StOn W P tv ov s) (hf : Fits big s) (hP : ∀ b, W.heap.size ≤ b → P b) :
    Calls Try.prog 31 #[stV tv s.at_ ov s.wait, .int .i64 n] W (RdOut (atomR T s) P W.heap.size W) :=
  atom_any big_le (by have := big_le2; omega) R T hTF hTL n n1 hn CT P tv ov s W hs hf hP
theorem row_doc {T : Sx → Rd} (hTF : ∀ s, Fits big s → Fits big (T s).s) (hTL : ∀ s, Lv s (T s)) {n n1 : Int} (hn : IntKind.i64.wrap (n - 1) = n1) (CT : TyC n1 T) (P : Nat → Prop) (tv ov : Value) (s : Sx) (W : World) (hs : StOn W P tv ov s) (hf : Fits big s) (hP : ∀ b, W.heap.size ≤ b → P b) :
    Calls Try.prog 34 #[stV tv s.at_ ov s.wait, .int .i64 n] W (RdOut (rowR (atomR T) s) P W.heap.size W) :=
  row_any big_le (by have := big_le2; omega) R (atomR T) (fun s h => fits_atom hTF h) (fun s => atom_lv hTL s) (atom_ne T) n (atom_doc R hTF hTL hn CT) P tv ov s W hs hf hP
theorem arrows_doc {T : Sx → Rd} (hTF : ∀ s, Fits big s → Fits big (T s).s) (hTL : ∀ s, Lv s (T s)) {n n1 : Int} (hn : IntKind.i64.wrap (n - 1) = n1) (CT : TyC n1 T) (P : Nat → Prop) (y : Rd) (kv tv ov : Value) (w : World) (hk : KOn w P kv y.k) (hs : StOn w P tv ov y.s) (hf : Fits big y.s) (hP : ∀ b, w.heap.size ≤ b → P b) (hlf : y.e = 0 → lf y.s ≤ 6 * big + 2) :
    Calls Try.prog 36 #[rdV y.h kv tv y.s.at_ ov y.s.wait y.e, .int .i64 n] w (RdOut (arrowsR (rowR (atomR T)) y) P w.heap.size w) :=
  arrows_any big_le big_le2 R (rowR (atomR T)) (fun s h => fits_row (fun s h => fits_atom hTF h) h) (fun s => row_lv (fun s => atom_lv hTL s) s) n (row_doc R hTF hTL hn CT) P y kv tv ov w hk hs hf hP hlf
theorem type_doc : ∀ n : Nat, n ≤ 99 → TyC (n : Int) (typeN n)
  | 0, _ => fun P tv ov s W hs _ _ => type_low 0 (by decide) P tv ov s W hs
  | n + 1, hn => fun P tv ov s W hs hf hP => by
    have ih := type_doc n (by omega)
    have hw := wrap_pred (n := n) (by omega)
    have el : ((lim ((n + 1 : Nat) : Int) : Nat) : Int) = ((n + 1 : Nat) : Int) := by rw [lim_nat (n := n + 1) (by omega)]
    have hTF := fun s h => fits_type (N := big) n s h
    have hTL := fun s => type_lv n s
    have h := typeC_any (rowR (atomR (typeN n))) ((n + 1 : Nat) : Int) (by rw [el]; exact row_doc R hTF hTL hw ih) P tv ov s W (fun s h => fits_row (fun s h => fits_atom hTF h) h) (by rw [el]; exact arrows_doc R hTF hTL hw ih) (fun h => rown_le hTL hf h) hs hf hP
    rw [if_neg (by omega)] at h
    exact h
theorem doc_atom (deep : Int) (P : Nat → Prop) (tv ov : Value) (s : Sx) (W : World) (hs : StOn W P tv ov s) (hf : Fits big s) (hP : ∀ b, W.heap.size ≤ b → P b) :
    Calls Try.prog 13 #[stV tv s.at_ ov s.wait, .int .i64 deep] W (RdOut (atomS s deep) P W.heap.size W) := by
  unfold atomS
  by_cases h : deep < 1
  · rw [if_pos h]
    exact atom_low deep h P tv ov s W hs
  · obtain ⟨n, hn, hl⟩ := lim_pos h
    have hw := wrap_pred (n := n) (by omega)
    have h2 := atomC_any (atomR (typeN n)) deep (by rw [hl]; exact atom_doc R (fun s h => fits_type (N := big) n s h) (fun s => type_lv n s) hw (type_doc R n hn)) P tv ov s W hs hf hP
    rw [if_neg h] at h2
    rw [if_neg h, hl, Nat.add_sub_cancel]
    exact h2
theorem doc_row (deep : Int) (P : Nat → Prop) (tv ov : Value) (s : Sx) (W : World) (hs : StOn W P tv ov s) (hf : Fits big s) (hP : ∀ b, W.heap.size ≤ b → P b) :
    Calls Try.prog 15 #[stV tv s.at_ ov s.wait, .int .i64 deep] W (RdOut (rowS s deep) P W.heap.size W) := by
  unfold rowS
  by_cases h : deep < 1
  · rw [if_pos h]
    exact row_low deep h P tv ov s W hs
  · obtain ⟨n, hn, hl⟩ := lim_pos h
    have hw := wrap_pred (n := n) (by omega)
    have h2 := rowC_any (rowR (atomR (typeN n))) deep (by rw [hl]; exact row_doc R (fun s h => fits_type (N := big) n s h) (fun s => type_lv n s) hw (type_doc R n hn)) P tv ov s W hs hf hP
    rw [if_neg h] at h2
    rw [if_neg h, hl, Nat.add_sub_cancel]
    exact h2
theorem doc_type (deep : Int) (P : Nat → Prop) (tv ov : Value) (s : Sx) (W : World) (hs : StOn W P tv ov s) (hf : Fits big s) (hP : ∀ b, W.heap.size ≤ b → P b) :
    Calls Try.prog 17 #[stV tv s.at_ ov s.wait, .int .i64 deep] W (RdOut (typeS s deep) P W.heap.size W) := by
  unfold typeS
  by_cases h : deep < 1
  · have e : lim deep = 0 := by
      unfold lim
      omega
    rw [e]
    exact type_low deep h P tv ov s W hs
  · obtain ⟨n, hn, hl⟩ := lim_pos h
    have hw := wrap_pred (n := n) (by omega)
    have hTF := fun s h => fits_type (N := big) n s h
    have hTL := fun s => type_lv n s
    have h2 := typeC_any (rowR (atomR (typeN n))) deep (by rw [hl]; exact row_doc R hTF hTL hw (type_doc R n hn)) P tv ov s W (fun s h => fits_row (fun s h => fits_atom hTF h) h) (by rw [hl]; exact arrows_doc R hTF hTL hw (type_doc R n hn)) (fun h => rown_le hTL hf h) hs hf hP
    rw [if_neg h] at h2
    rw [hl]
    exact h2
theorem doc_full (deep : Int) (P : Nat → Prop) (tv ov : Value) (s : Sx) (W : World) (hs : StOn W P tv ov s) (hf : Fits big s) (hP : ∀ b, W.heap.size ≤ b → P b) :
    Calls Try.prog 19 #[stV tv s.at_ ov s.wait, .int .i64 deep] W (RdOut (fullS s deep) P W.heap.size W) := by
  unfold fullS
  by_cases h : deep < 1
  · rw [if_pos h]
    exact full_low deep h P tv ov s W hs
  · obtain ⟨n, hn, hl⟩ := lim_pos h
    have hw := wrap_pred (n := n) (by omega)
    have hTF := fun s h => fits_type (N := big) n s h
    have hTL := fun s => type_lv n s
    have hR := fun s h => fits_row (N := big) (fun s h => fits_atom hTF h) (s := s) h
    have h2 := fullC_any big_le R (rowR (atomR (typeN n))) hR (fun s hf h => rown_le hTL hf h) (fun y h => fits_arrows hR h) deep (by rw [hl]; exact row_doc R hTF hTL hw (type_doc R n hn)) (by rw [hl]; exact arrows_doc R hTF hTL hw (type_doc R n hn)) P tv ov s W hs hf hP
    rw [if_neg h] at h2
    rw [if_neg h, hl, Nat.add_sub_cancel, fullR_eq]
    exact h2
end
/-- The document's Next, so. -/
theorem refnext_on : NextOn 59 := nextOn_of (fun vt vo s W h1 h2 hf hk => by
  obtain ⟨i, hi, hok⟩ := (Lay.okB_iff s).1 hk
  refine (Lay.refnext_is vt vo s W h1 h2 hf i hi hok).mono ?_
  rintro e w' ⟨vo', rfl, i1, f1, b1⟩
  have en : nextS s = ((Lay.nextL s.toks i s.opn s.wait).tok, ⟨s.toks, ((Lay.nextL s.toks i s.opn s.wait).at_ : Int), (Lay.nextL s.toks i s.opn s.wait).opn, (Lay.nextL s.toks i s.opn s.wait).wait⟩, (Lay.nextL s.toks i s.opn s.wait).err) := by
    unfold nextS
    rw [if_pos hk, hi, Int.toNat_natCast]
  unfold tk nx er tkV9 stV
  rw [en]
  exact ⟨vo', rfl, i1, f1, b1⟩) (fun v s W hv hf hk => Lay.refnext_not v s W hv hf hk)
end Go.Proofs.Ytmgclgojmckfhaa.Typ
