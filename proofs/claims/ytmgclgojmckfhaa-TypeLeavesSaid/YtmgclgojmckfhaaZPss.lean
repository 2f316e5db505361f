/-
  The document's own SameState at two states over the same tokens. Conditions: at most 2^40 tokens and blocks.
-/
import Derived.Test.YtmgclgojmckfhaaZSm
import Derived.Test.YtmgclgojmckfhaaZPro
namespace Go.Proofs.Ytmgclgojmckfhaa.Lay
open Tks Mrk Go.RowKit
set_option linter.unusedSimpArgs false
set_option linter.unusedVariables false

def sameSt (i i2 : Int) (o o2 : List Int) (wt wt2 : Int) : Bool := decide (i = i2) && (decide (wt = wt2) && decide (o = o2))
set_option maxRecDepth 1000000 in
set_option maxHeartbeats 4000000 in
theorem samestate_toks (va vb : Value) (toks : List Tk) (i i2 : Int) (o o2 : List Int) (wt wt2 : Int) (w : World) (ha : StV w va ⟨toks, i, o, wt⟩) (hb : StV w vb ⟨toks, i2, o2, wt2⟩) (hf : toks.length ≤ 1099511627776 ∧ o.length ≤ 1099511627776) :
    Calls Try.prog 25 #[va, vb] w fun e w' => e = .returned (.bool (sameSt i i2 o o2 wt wt2)) ∧ Below w.heap.size w w' := by
  obtain ⟨ta, oa, rfl, hta, hoa⟩ := ha
  obtain ⟨tb, ob, rfl, htb, hob⟩ := hb
  obtain ⟨hf1, hf2⟩ := hf
  dsimp only at hta hoa htb hob hf1 hf2 ⊢
  obtain ⟨p1, q1, rfl⟩ := hta.len
  obtain ⟨p2, q2, rfl⟩ := hoa.len
  obtain ⟨p3, q3, rfl⟩ := htb.len
  obtain ⟨p4, q4, rfl⟩ := hob.len
  have HTA := Lib.hid hta
  have HTB := Lib.hid htb
  have HOA := Lib.hid hoa
  have HOB := Lib.hid hob
  have HF1 := Lib.hid hf1
  have HF2 := Lib.hid hf2
  clear hta htb hoa hob hf1 hf2
  by_cases hi : i = i2
  · subst hi
    by_cases hw2 : wt = wt2
    · subst hw2
      by_cases hn : o2.length = o.length
      · have HN := Lib.hid hn
        rw [hn]
        clear hn
        go_enter Try.func25, Try.ntmps25
        go_upto_region 1 with fail
        refine world_new (fun X => Lies X w.heap.size (stO (.slice p1 toks.length q1) i (.slice p2 o.length q2) wt) ∧ Lies X (w.heap.size + 1) (stO (.slice p3 toks.length q3) i (.slice p4 o.length q4) wt) ∧ Below w.heap.size w X) ⟨(two_lie w _ _).1, (two_lie w _ _).2, below_two w _ _⟩ ?_
        rintro X ⟨l1, l2, bX⟩
        obtain ⟨c0, c1, c2, c3, -⟩ := l1.four
        obtain ⟨d0, d1, d2, d3, -⟩ := l2.four
        have TA := Lib.hid (HTA.out.below bX (Nat.le_refl _))
        have TB := Lib.hid (HTB.out.below bX (Nat.le_refl _))
        have OA := Lib.hid (HOA.out.below bX (Nat.le_refl _))
        have OB := Lib.hid (HOB.out.below bX (Nat.le_refl _))
        have BX := Lib.hid bX
        generalize w.heap.size + 1 = B2 at *
        clear l1 l2 bX HTA HTB HOA HOB
        go_wp2_with fail
        go_loopw [5] (fun iv wr => ∃ (k n : Nat), iv = .int .i64 (k : Int) ∧ wr = X.drewN n ∧ k ≤ toks.length) (fun iv _ => toks.length - (intOf iv).toNat)
        case atStart => exact ⟨0, 0, rfl, rfl, by omega⟩
        case round =>
          obtain ⟨k, n, rfl, rfl, hk⟩ := hrel
          by_cases hp : k < toks.length
          · obtain ⟨t, ht⟩ : ∃ t, toks[k]? = some t := ⟨_, List.getElem?_eq_getElem hp⟩
            obtain ⟨ga, fa, ca, e1, ha1, ha2⟩ := TA.out.cells (by omega)
            obtain ⟨gb, fb, cb, e2, hb1, hb2⟩ := TB.out.cells (by omega)
            simp only [Value.slice.injEq] at e1 e2
            obtain ⟨rfl, -, rfl⟩ := e1
            obtain ⟨rfl, -, rfl⟩ := e2
            have HA : TkIn X ga fa toks := ⟨ha1, ha2⟩
            have HB : TkIn X gb fb toks := ⟨hb1, hb2⟩
            obtain ⟨a0, a1, a2, a3⟩ := HA.four k t ht
            obtain ⟨b0, b1, b2, b3⟩ := HB.four k t ht
            have hw := idx_at k toks.length hp (Nat.le_trans HF1.out (by decide))
            have HW := Lib.hid hw
            clear ht hw HA HB ha1 ha2 hb1 hb2
            have i0 : (0 : Int) ≤ (k : Int) := by omega
            have i1 : (k : Int) < (toks.length : Int) := by omega
            go_wp2_with fail
            go_quiet (fail)
            go_wp2_with fail
            go_roundw
            case rel =>
              rw [HW.out]
              exact ⟨k + 1, _, by go_num, rfl, by omega⟩
            case measure =>
              rw [HW.out]
              simp [intOf]
              omega
          · have lt1 : decide ((k : Int) < (toks.length : Int)) = false := decide_eq_false (by omega)
            have lt2 : decide (k < toks.length) = false := decide_eq_false hp
            go_wp2_with fail
            go_loopw [6] (fun iv wr => ∃ (j m : Nat), iv = .int .i64 (j : Int) ∧ wr = X.drewN m ∧ j ≤ o.length ∧ o.take j = o2.take j) (fun iv _ => o.length - (intOf iv).toNat)
            case atStart => exact ⟨0, n, rfl, rfl, by omega, by simp⟩
            case round =>
              obtain ⟨j, m, rfl, rfl, hj, hjt⟩ := hrel
              by_cases hq : j < o.length
              · obtain ⟨x, hx⟩ : ∃ x, o[j]? = some x := ⟨_, List.getElem?_eq_getElem hq⟩
                obtain ⟨y, hy⟩ : ∃ y, o2[j]? = some y := ⟨_, List.getElem?_eq_getElem (by have := HN.out; omega)⟩
                obtain ⟨ga, fa, ca, e1, -, ha1, ha2⟩ := OA.out.cells (by omega)
                obtain ⟨gb, fb, cb, e2, -, hb1, hb2⟩ := OB.out.cells (by have := HN.out; omega)
                simp only [Value.slice.injEq] at e1 e2
                obtain ⟨rfl, -, rfl⟩ := e1
                obtain ⟨rfl, -, rfl⟩ := e2
                have a0 := ha2 j x hx
                have b0 := hb2 j y hy
                have HJ : Hid (x = y → o.take (j + 1) = o2.take (j + 1)) := fun e => by rw [List.take_add_one, List.take_add_one, hx, hy, hjt, e]
                have HK : Hid (x ≠ y → sameSt i i o o2 wt wt = false) := fun e => by
                  unfold sameSt
                  rw [decide_eq_false (p := o = o2) (fun q => e (by rw [q, hy] at hx; exact (Option.some.inj hx).symm))]
                  simp
                have hw := idx_at j o.length hq (Nat.le_trans HF2.out (by decide))
                have HW := Lib.hid hw
                clear hx hy hw ha1 ha2 hb1 hb2 hjt
                have i0 : (0 : Int) ≤ (j : Int) := by omega
                have i1 : (j : Int) < (o.length : Int) := by omega
                by_cases hxy : x = y
                · subst hxy
                  have HJ2 := Lib.hid (HJ.out rfl)
                  clear HJ HK
                  go_wp2_with fail
                  go_quiet (fail)
                  go_wp2_with fail
                  go_roundw
                  case rel =>
                    rw [HW.out]
                    exact ⟨j + 1, _, by go_num, rfl, by omega, HJ2.out⟩
                  case measure =>
                    rw [HW.out]
                    simp [intOf]
                    omega
                · have x1 : (x != y) = true := bne_iff_ne.2 hxy
                  have HK2 := Lib.hid (HK.out hxy)
                  clear HJ HK hxy
                  go_wp2_with fail
                  go_quiet (fail)
                  go_wp2_with fail
                  go_ret
                  exact ⟨by rw [HK2.out]; rfl, below_drewN (below_drewN BX.out m) _⟩
              · have lt3 : decide ((j : Int) < (o.length : Int)) = false := decide_eq_false (by omega)
                have lt4 : decide (j < o.length) = false := decide_eq_false hq
                have ho : o = o2 := by
                  have := HN.out
                  rw [List.take_of_length_le (by omega), List.take_of_length_le (by omega)] at hjt
                  exact hjt
                have HK : Hid (sameSt i i o o2 wt wt = true) := by
                  unfold Hid sameSt
                  simp [ho]
                clear ho hjt
                go_wp2_with fail
                go_ret
                exact ⟨by rw [HK.out]; rfl, below_drewN BX.out m⟩
      · have x1 : ((o.length : Int) != (o2.length : Int)) = true := bne_iff_ne.2 (by omega)
        have HK : Hid (sameSt i i o o2 wt wt = false) := by
          unfold Hid sameSt
          rw [decide_eq_false (p := o = o2) (fun q => hn (by rw [q]))]
          simp
        clear hn HTA HTB HOA HOB
        go_enter Try.func25, Try.ntmps25
        go_upto_region 1 with fail
        refine world_new (fun X => Lies X w.heap.size (stO (.slice p1 toks.length q1) i (.slice p2 o.length q2) wt) ∧ Lies X (w.heap.size + 1) (stO (.slice p3 toks.length q3) i (.slice p4 o2.length q4) wt) ∧ Below w.heap.size w X) ⟨(two_lie w _ _).1, (two_lie w _ _).2, below_two w _ _⟩ ?_
        rintro X ⟨l1, l2, bX⟩
        obtain ⟨c0, c1, c2, c3, -⟩ := l1.four
        obtain ⟨d0, d1, d2, d3, -⟩ := l2.four
        have BX := Lib.hid bX
        clear l1 l2 bX
        generalize w.heap.size + 1 = B2 at *
        go_wp2_with fail
        go_ret
        exact ⟨by rw [HK.out]; rfl, BX.out⟩
    · have x1 : (wt != wt2) = true := bne_iff_ne.2 hw2
      have HK : Hid (sameSt i i o o2 wt wt2 = false) := by
        unfold Hid sameSt
        simp [hw2]
      clear hw2 HTA HTB HOA HOB
      go_enter Try.func25, Try.ntmps25
      go_upto_region 1 with fail
      refine world_new (fun X => Lies X w.heap.size (stO (.slice p1 toks.length q1) i (.slice p2 o.length q2) wt) ∧ Lies X (w.heap.size + 1) (stO (.slice p3 toks.length q3) i (.slice p4 o2.length q4) wt2) ∧ Below w.heap.size w X) ⟨(two_lie w _ _).1, (two_lie w _ _).2, below_two w _ _⟩ ?_
      rintro X ⟨l1, l2, bX⟩
      obtain ⟨c0, c1, c2, c3, -⟩ := l1.four
      obtain ⟨d0, d1, d2, d3, -⟩ := l2.four
      have BX := Lib.hid bX
      clear l1 l2 bX
      generalize w.heap.size + 1 = B2 at *
      go_wp2_with fail
      go_ret
      exact ⟨by rw [HK.out]; rfl, BX.out⟩
  · have x1 : (i != i2) = true := bne_iff_ne.2 hi
    have HK : Hid (sameSt i i2 o o2 wt wt2 = false) := by
      unfold Hid sameSt
      simp [hi]
    clear hi HTA HTB HOA HOB
    go_enter Try.func25, Try.ntmps25
    go_upto_region 1 with fail
    refine world_new (fun X => Lies X w.heap.size (stO (.slice p1 toks.length q1) i (.slice p2 o.length q2) wt) ∧ Lies X (w.heap.size + 1) (stO (.slice p3 toks.length q3) i2 (.slice p4 o2.length q4) wt2) ∧ Below w.heap.size w X) ⟨(two_lie w _ _).1, (two_lie w _ _).2, below_two w _ _⟩ ?_
    rintro X ⟨l1, l2, bX⟩
    obtain ⟨c0, c1, c2, c3, -⟩ := l1.four
    obtain ⟨d0, d1, d2, d3, -⟩ := l2.four
    have BX := Lib.hid bX
    clear l1 l2 bX
    generalize w.heap.size + 1 = B2 at *
    go_wp2_with fail
    go_ret
    exact ⟨by rw [HK.out]; rfl, BX.out⟩
end Go.Proofs.Ytmgclgojmckfhaa.Lay
/-
  What passed tells: the tokens from one state up to another one that is come to. Conditions: at most 2^35 tokens and blocks, and fewer than 7000 steps left.
-/
namespace Go.Proofs.Ytmgclgojmckfhaa.Typ
open Tks Tre Go.RowKit
open Lay (Sx StV Fit9 nextS NextOut tkV9 IntArg Kp)
set_option linter.unusedSimpArgs false
set_option linter.unusedVariables false

theorem er_ok {s : Sx} (h : er s = 0) : Lay.okB s = true := by
  cases hok : Lay.okB s with
  | false =>
    unfold er nextS at h
    rw [if_neg (by rw [hok]; decide)] at h
    exact absurd h (by decide)
  | true => rfl
theorem nx_toks {s : Sx} (h : er s = 0) : (nx s).toks = s.toks := by
  unfold nx nextS
  rw [if_pos (er_ok h)]
theorem steps_toks {s t : Sx} {l : List Tk} (h : Steps s l t) : t.toks = s.toks := by
  induction h with
  | nil s => rfl
  | cons e k _ ih => rw [ih, nx_toks e]
theorem steps_fits {N : Nat} {s t : Sx} {l : List Tk} (h : Steps s l t) (hf : Fits N s) : Fits N t := by
  induction h with
  | nil s => exact hf
  | cons e k _ ih => exact ih (fits_next hf)
theorem steps_left {s t : Sx} {l : List Tk} (h : Steps s l t) : l.length + lf t ≤ lf s := by
  induction h with
  | nil s => simp
  | cons e k _ ih =>
    have := step_less e k
    rw [List.length_cons]
    omega
/-- The end is the state at hand just if no token is left. -/
theorem same_none (s : Sx) : Lay.sameSt s.at_ s.at_ s.opn s.opn s.wait s.wait = true := by
  unfold Lay.sameSt
  simp
theorem same_some {s t : Sx} {l : List Tk} {x : Tk} (h : Steps s (x :: l) t) : Lay.sameSt s.at_ t.at_ s.opn t.opn s.wait t.wait = false := by
  have h1 := steps_left h
  have h2 := steps_toks h
  rw [List.length_cons] at h1
  cases hs : Lay.sameSt s.at_ t.at_ s.opn t.opn s.wait t.wait with
  | false => rfl
  | true =>
    exfalso
    unfold Lay.sameSt at hs
    simp only [Bool.and_eq_true, decide_eq_true_eq] at hs
    have e : lf t = lf s := by
      unfold lf
      rw [h2, hs.1, hs.2.1, hs.2.2]
    omega
theorem steps_nil {s t : Sx} (h : Steps s [] t) : t = s := by
  cases h
  rfl
theorem steps_inv {s t : Sx} {l : List Tk} {x : Tk} (h : Steps s (x :: l) t) : er s = 0 ∧ x = tk s ∧ Steps (nx s) l t ∧ lf (nx s) < lf s := by
  cases h with
  | cons e k h => exact ⟨e, rfl, h, step_less e k⟩
/-- append of a token that was just laid. -/
theorem push_tk (W : World) {ops : Array Oper} {rest : List Oper} {o : Oper} {a : Act} {Q : Exit → Act → World → Prop} (hg : o.guard = none) (sl x : Operand) (hop : o.op = Op.call { callee := Callee.builtin Builtin.append, args := #[sl, x], argTypes := #[22, 22] })
    (B : Nat) (v : Value) (l : List Tk) (hs : a.eval sl = v) (hown : Own W B v l) (hB : B ≤ W.heap.size) (t : Tk) (ty : TypeId) (c : Nat) (hx : a.eval x = .slice (some ⟨W.heap.size, 0, none⟩) 1 c) (b1 : l.length + 1 ≤ 3518437208880)
    (hK : ∀ v' W2, Own W2 B v' (l ++ [t]) → Mv W W2 v v' → wpList Try.prog ops Q rest (a.put o.dst v') W2) :
    wpList Try.prog ops Q (o :: rest) a (W.alloc (.cells #[.int .i64 t.kind, .string t.text, .int .i64 t.line, .int .i64 t.col] ty)) := by
  have h0 : Below W.heap.size W (W.alloc (.cells #[.int .i64 t.kind, .string t.text, .int .i64 t.line, .int .i64 t.col] ty)) := (Below.refl _ _).alloc (Nat.le_refl _) _
  have s1 : (W.alloc (.cells #[.int .i64 t.kind, .string t.text, .int .i64 t.line, .int .i64 t.col] ty)).heap.size = W.heap.size + 1 := Array.size_push _
  have h1 : Own (W.alloc (.cells #[.int .i64 t.kind, .string t.text, .int .i64 t.line, .int .i64 t.col] ty)) B v l := hown.below h0 (Nat.le_refl _)
  refine append_one _ hg sl x hop B v l hs h1 ⟨W.heap.size, 0, none⟩ t c hx (fun j u hj => ?_) b1 (by omega) ?_
  · rw [add_plain, new_cell]
    simpa [tkC] using hj
  · intro v' W2 o2 g2 g3
    exact hK v' W2 o2 ⟨⟨g2.os.trans h0.os, g2.tape.trans h0.tape, g2.output.trans h0.output, Nat.le_trans h0.size g2.size, fun k hk hne => (g2.block k (by omega) hne).trans (h0.block k hk)⟩, g3.imp id (fun e => ⟨_, e, by omega⟩)⟩
/-- Blocks that are neither of two, nor the row's own. -/
def Pd (A : Nat) (v : Value) (b : Nat) : Prop := Px (fun b => b ≠ A ∧ b ≠ A + 1) v b
set_option maxRecDepth 1000000 in
set_option maxHeartbeats 8000000 in
theorem passed_any (ls : List Tk) (s t : Sx) (va vb : Value) (w : World) (ha : StV w va s) (hb : StV w vb t) (h : Steps s ls t) (hf : Fits big s) (hl : ls ≠ [] → lf s < 7000) :
    Calls Try.prog 21 #[va, vb] w fun e w' => ∃ v, e = .returned (.tuple #[v, .bool true]) ∧ TkArg w' v ls ∧ Below w.heap.size w w' := by
  obtain ⟨ta, oa, rfl, hta, hoa⟩ := ha
  obtain ⟨tb, ob, rfl, htb, hob⟩ := hb
  have hT := StOn.of (P := fun b => b < w.heap.size) htb hob (fun _ h => h)
  have hS := StOn.of (P := fun b => b < w.heap.size) hta hoa (fun _ h => h)
  obtain ⟨tb, tbc, ob, obc, rfl, rfl⟩ := hT.len
  have HT := Lib.hid hT
  have HS := Lib.hid hS
  have HH := Lib.hid h
  have HF := Lib.hid hf
  have HL := Lib.hid hl
  have htoks := Lib.hid (steps_toks h)
  have hft := Lib.hid (steps_fits h hf)
  clear hta hoa htb hob hT hS h hf hl
  go_enter Try.func21, Try.ntmps21
  go_upto_region 1 with fail
  refine gen_world (fun X => Below w.heap.size w X ∧ w.heap.size + 2 ≤ X.heap.size ∧ Lies X w.heap.size (stB ta s.at_ oa s.wait) ∧ Lies X (w.heap.size + 1) (stB (.slice tb t.toks.length tbc) t.at_ (.slice ob t.opn.length obc) t.wait)) ?_ ?_
  · exact ⟨below_two' w _ _, by rw [World.size_alloc, World.size_alloc]; omega, (two_lie w _ _).1, (two_lie w _ _).2⟩
  rintro X ⟨bX, zX, lX1, lX2⟩
  have BX := Lib.hid bX
  have ZX := Lib.hid zX
  have LX1 := Lib.hid lX1
  have LX2 := Lib.hid lX2
  clear bX zX lX1 lX2
  go_wp2_with fail
  go_loopw [6, 7] (fun lv iv wr => ∃ (k : Nat) (sk : Sx) (done rest : List Tk) (ta oa : Option Addr) (tc oc : Nat), iv = .int .i64 (k : Int) ∧ ls = done ++ rest ∧ done.length = k ∧ Steps sk rest t ∧ k < 7000 ∧ (rest ≠ [] → k + lf sk < 7000) ∧ Fits big sk ∧ Own wr (w.heap.size + 2) lv done ∧ w.heap.size + 2 ≤ wr.heap.size ∧
      Lies wr w.heap.size (stB (.slice ta sk.toks.length tc) sk.at_ (.slice oa sk.opn.length oc) sk.wait) ∧ Lies wr (w.heap.size + 1) (stB (.slice tb t.toks.length tbc) t.at_ (.slice ob t.opn.length obc) t.wait) ∧ StOn wr (Pd w.heap.size lv) (.slice ta sk.toks.length tc) (.slice oa sk.opn.length oc) sk ∧ StOn wr (Pd w.heap.size lv) (.slice tb t.toks.length tbc) (.slice ob t.opn.length obc) t ∧ Below w.heap.size w wr) (fun _ iv _ => 7000 - (intOf iv).toNat)
  case atStart =>
    obtain ⟨ta', tac, oa', oac, rfl, rfl⟩ := HS.out.len
    have q : ∀ b, b < w.heap.size → b < w.heap.size → Pd w.heap.size (.slice none 0 0) b := fun b h _ => ⟨⟨by omega, by omega⟩, fun e => by cases e⟩
    exact ⟨0, s, [], ls, ta', oa', tac, oac, rfl, rfl, rfl, HH.out, by decide, fun h => by have := HL.out h; omega, HF.out, Own.nil _ _, ZX.out, LX1.out, LX2.out, (HS.out.below BX.out (Nat.le_refl _)).less (fun b _ h => q b h h), (HT.out.below BX.out (Nat.le_refl _)).less (fun b _ h => q b h h), BX.out⟩
  case round =>
    obtain ⟨k, sk, done, rest, ta, oa, tc, oc, rfl, hls, hdl, hst, hk7, hkl, hfk, hown, hzr, l1, l2, s1, s2, hbel⟩ := hrel
    have x0 : decide ((k : Int) < 7000) = true := decide_eq_true (by omega)
    have hdl2 : done.length ≤ 7000 := by omega
    have CS : Hid (∀ W', Below wr.heap.size wr W' → Calls Try.prog 25 #[stV (.slice ta sk.toks.length tc) sk.at_ (.slice oa sk.opn.length oc) sk.wait, stV (.slice tb t.toks.length tbc) t.at_ (.slice ob t.opn.length obc) t.wait] W' fun e w' => e = .returned (.bool (Lay.sameSt sk.at_ t.at_ sk.opn t.opn sk.wait t.wait)) ∧ Below W'.heap.size W' w') := fun W' hW => by
      have e : t.toks = sk.toks := steps_toks hst
      have q1 := (s1.below hW (Nat.le_refl _)).st
      have q2 := (s2.below hW (Nat.le_refl _)).st
      refine Lay.samestate_toks _ _ sk.toks sk.at_ t.at_ sk.opn t.opn sk.wait t.wait W' q1 ?_ (hfk.nine big_le)
      rw [← e]
      exact q2
    have CN : Hid (∀ W', Below wr.heap.size wr W' → Calls Try.prog 42 #[stV (.slice ta sk.toks.length tc) sk.at_ (.slice oa sk.opn.length oc) sk.wait] W' fun e w' => ∃ tv' ov', e = .returned (.tuple #[tkV9 (tk sk), stV tv' (nx sk).at_ ov' (nx sk).wait, .int .i64 (er sk)]) ∧ StOn w' (Pd w.heap.size u6) tv' ov' (nx sk) ∧ Below W'.heap.size W' w') := fun W' hW =>
      prognext_on _ _ _ sk W' (s1.below hW (Nat.le_refl _)) (hfk.nine big_le) (fun b hb => ⟨⟨by have := hW.size; omega, by have := hW.size; omega⟩, fun e => by have := (World.ownsRow.lt hown b e).2; have := hW.size; omega⟩)
    unfold stV at CS CN
    unfold tkV9 at CN
    cases rest with
    | nil =>
      have e1 : Lay.sameSt sk.at_ t.at_ sk.opn t.opn sk.wait t.wait = true := by
        rw [steps_nil hst]
        exact same_none sk
      rw [e1] at CS
      rw [List.append_nil] at hls
      subst hls
      obtain ⟨a0, a1, a2, a3⟩ := four_st l1
      obtain ⟨b0, b1, b2, b3⟩ := four_st l2
      have HO := Lib.hid hown
      have HB := Lib.hid hbel
      clear e1 hst hk7 hkl hfk hown hzr l1 l2 s1 s2 hbel CN
      go_wp2_with (first
        | (go_at_call 25; refine (CS.out _ (Below.refl _ _)).mono ?_; rintro e w2 ⟨rfl, c2⟩; have C2 := Lib.hid c2; clear c2 a0 a1 a2 a3 b0 b1 b2 b3))
      refine bodyPost_ret (by simp [results, Try.results21, go_sem]; try rfl) rfl ?_
      exact ⟨_, rfl, (HO.out.below C2.out (Nat.le_refl _)).arg, afterL HB.out C2.out⟩
    | cons x rest =>
      obtain ⟨e0, rfl, hst2, hless⟩ := steps_inv hst
      have e1 := same_some hst
      have hfn : Fits big (nx sk) := fits_next hfk
      rw [e1] at CS
      rw [e0] at CN
      obtain ⟨a0, a1, a2, a3⟩ := four_st l1
      obtain ⟨b0, b1, b2, b3⟩ := four_st l2
      have HO := Lib.hid hown
      have HB := Lib.hid hbel
      have HZ := Lib.hid hzr
      have L1 := Lib.hid l1
      have L2 := Lib.hid l2
      have T2 := Lib.hid s2
      have HST := Lib.hid hst2
      have HLS := Lib.hid hls
      have HDL := Lib.hid hdl
      have HFN := Lib.hid hfn
      have HKL : Hid (k + 1 + lf (nx sk) < 7000) := by have := hkl (List.cons_ne_nil _ _); unfold Hid; omega
      have KW := Lib.hid (show wrap64 ((k : Int) + 1) = (k : Int) + 1 from idx_at k 7000 (by omega) (by decide))
      have HD2 := Lib.hid hdl2
      have K7 : Hid (k < 7000) := by unfold Hid; omega
      generalize nx sk = sn at *
      generalize tk sk = tt at *
      clear e0 e1 hst hst2 hless hk7 hkl hfk hown hzr l1 l2 s1 s2 hbel hls hfn hdl hdl2 HH HF HL HS HT ZX LX1 LX2 BX hft htoks
      go_upto_region 8 with (first
        | (go_at_call 42; refine (CN.out _ C2.out).mono ?_; rintro e w3 ⟨tv3, ov3, rfl, s3, c3⟩; obtain ⟨ta3, tc3, oa3, oc3, rfl, rfl⟩ := s3.len; have S3 := Lib.hid s3; have C3 := Lib.hid (afterL C2.out c3); clear s3 c3 a0 a1 a2 a3)
        | (go_at_call 25; refine (CS.out _ (Below.refl _ _)).mono ?_; rintro e w2 ⟨rfl, c2⟩; have C2 := Lib.hid c2; clear c2 a0 a1 a2 a3 b0 b1 b2 b3; obtain ⟨a0, a1, a2, a3⟩ := four_st (L1.out.below C2.out L1.out.lt)))
      refine gen_world (fun Y => Below wr.heap.size wr Y ∧ wr.heap.size ≤ w3.heap.size ∧ Lies Y w3.heap.size (tkB tt) ∧ Lies Y (w3.heap.size + 1) (stB (.slice ta3 sn.toks.length tc3) sn.at_ (.slice oa3 sn.opn.length oc3) sn.wait) ∧ StOn Y (Pd w.heap.size u6) (.slice ta3 sn.toks.length tc3) (.slice oa3 sn.opn.length oc3) sn) ?_ ?_
      · have b4 := below_two' w3 (tkB tt) (stB (.slice ta3 sn.toks.length tc3) sn.at_ (.slice oa3 sn.opn.length oc3) sn.wait)
        exact ⟨afterL C3.out b4, C3.out.size, (two_lie w3 _ _).1, (two_lie w3 _ _).2, S3.out.below b4 (Nat.le_refl _)⟩
      rintro Y ⟨bY, zM, tY, nY, sY⟩
      have z1 := HZ.out
      have OY := Lib.hid (HO.out.below bY (Nat.le_refl _))
      have LY1 := Lib.hid (L1.out.below bY L1.out.lt)
      have LY2 := Lib.hid (L2.out.below bY L2.out.lt)
      have TY2 := Lib.hid (T2.out.below bY (Nat.le_refl _))
      have BY := Lib.hid (afterL HB.out bY)
      have ZY : Hid (w.heap.size + 2 ≤ Y.heap.size) := Nat.le_trans z1 bY.size
      have ZM : Hid (w.heap.size + 2 ≤ w3.heap.size) := Nat.le_trans z1 zM
      have NU : Hid (∀ b, w3.heap.size ≤ b → u6.ownBlock ≠ some b) := fun b hb e => by have := (World.ownsRow.lt HO.out b e).2; omega
      have NU1 : Hid (u6.ownBlock ≠ some w.heap.size) := fun e => by have := (World.ownsRow.lt HO.out _ e).1; omega
      have NU2 : Hid (u6.ownBlock ≠ some (w.heap.size + 1)) := fun e => by have := (World.ownsRow.lt HO.out _ e).1; omega
      generalize w3.heap.size = M at *
      obtain ⟨d0, d1, d2, d3⟩ := four_tk tY
      have SY := Lib.hid sY
      have NY := Lib.hid nY
      clear bY zM z1 tY nY sY C2 C3 S3 CS CN HO L1 L2 T2 HB HZ
      go_wp2_with (first
        | (at_builtin; refine push_tk Y rfl _ _ rfl (w.heap.size + 2) u6 done rfl OY.out ZY.out tt _ _ rfl (by have := HD2.out; omega) ?_; intro v4 w4 o4 m4; have O4 := Lib.hid o4; have M4 := Lib.hid m4; clear o4 m4; obtain ⟨a0, a1, a2, a3⟩ := four_st (M4.out.lies LY1.out NU1.out); obtain ⟨f0, f1, f2, f3⟩ := four_fr (M4.out.lies LY1.out NU1.out); obtain ⟨e0, e1, e2, e3⟩ := four_st (M4.out.lies NY.out (NU.out _ (Nat.le_succ _)))))
      rw [KW.out]
      have n0 : ¬ w.heap.size + 1 = w.heap.size := by omega
      have LF := set4_lies (M4.out.lies LY1.out NU1.out) (.slice ta3 sn.toks.length tc3) (.slice oa3 sn.opn.length oc3) sn.at_ sn.wait
      have LG := set4_other (M4.out.lies LY2.out NU2.out) n0 (.slice ta3 sn.toks.length tc3) (.int .i64 sn.at_) (.slice oa3 sn.opn.length oc3) (.int .i64 sn.wait)
      have SF : StOn (Lay.set4 w4 w.heap.size (.slice ta3 sn.toks.length tc3) (.int .i64 sn.at_) (.slice oa3 sn.opn.length oc3) (.int .i64 sn.wait)) (Pd w.heap.size v4) (.slice ta3 sn.toks.length tc3) (.slice oa3 sn.opn.length oc3) sn := StOn.set4 (M4.out.st SY.out) (fun b hb => hb.1.1) _ _ _ _
      have SG : StOn (Lay.set4 w4 w.heap.size (.slice ta3 sn.toks.length tc3) (.int .i64 sn.at_) (.slice oa3 sn.opn.length oc3) (.int .i64 sn.wait)) (Pd w.heap.size v4) (.slice tb t.toks.length tbc) (.slice ob t.opn.length obc) t := StOn.set4 (M4.out.st TY2.out) (fun b hb => hb.1.1) _ _ _ _
      have o4 := O4.out
      unfold Own at o4
      have OF : Own (Lay.set4 w4 w.heap.size (.slice ta3 sn.toks.length tc3) (.int .i64 sn.at_) (.slice oa3 sn.opn.length oc3) (.int .i64 sn.wait)) (w.heap.size + 2) v4 (done ++ [tt]) :=
        own_set (own_set (own_set (own_set o4 (by dsimp only; omega) _) (by dsimp only; omega) _) (by dsimp only; omega) _) (by dsimp only; omega) _
      have g4 := M4.out.grown
      have b4 : Below w.heap.size w w4 := Below.grown BY.out g4 BY.out.size (fun q hq => by have := (World.ownsRow.lt OY.out q hq).1; omega)
      have BF := set4_below b4 (Nat.le_refl _) (.slice ta3 sn.toks.length tc3) (.int .i64 sn.at_) (.slice oa3 sn.opn.length oc3) (.int .i64 sn.wait)
      have zF : w.heap.size + 2 ≤ (Lay.set4 w4 w.heap.size (.slice ta3 sn.toks.length tc3) (.int .i64 sn.at_) (.slice oa3 sn.opn.length oc3) (.int .i64 sn.wait)).heap.size := by
        rw [set4_size]
        exact Nat.le_trans ZY.out g4.size
      have q1 := HKL.out
      have q2 := HDL.out
      have q3 := K7.out
      have q4 := HLS.out
      refine ⟨⟨k + 1, sn, done ++ [tt], rest, ta3, oa3, tc3, oc3, congrArg (Value.int .i64) (by omega), by rw [q4, List.append_assoc]; rfl, by rw [List.length_append, q2]; rfl, HST.out, by omega, fun _ => q1, HFN.out, OF, zF, LF, LG, SF, SG, BF⟩, ?_⟩
      unfold intOf
      dsimp only
      omega
end Go.Proofs.Ytmgclgojmckfhaa.Typ
