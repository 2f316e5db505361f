/-
  The document's own SameState at two values that hold the same state. Conditions: at most 2^40 tokens and blocks.
-/
import Derived.Test.YtmcdclhfjjplnaaLayNot
namespace Go.Proofs.Ytmcdclhfjjplnaa.Lay
open Tks Mrk Go.RowKit
set_option linter.unusedSimpArgs false
set_option linter.unusedVariables false

theorem world_new {c : Code} {Q : Exit → Act → World → Prop} {a : Act} {W : World} (P : World → Prop) (h : P W) (k : ∀ X, P X → c.wp Try.prog Q a X) : c.wp Try.prog Q a W := k _ h
set_option maxRecDepth 1000000 in
set_option maxHeartbeats 4000000 in
theorem samestate_any (va vb : Value) (s : Sx) (w : World) (ha : StV w va s) (hb : StV w vb s) (hf : Fit9 s) :
    Calls Try.prog 13 #[va, vb] w fun e w' => e = .returned (.bool true) ∧ Below w.heap.size w w' := by
  obtain ⟨toks, i, o, wt⟩ := s
  obtain ⟨ta, oa, rfl, hta, hoa⟩ := ha
  obtain ⟨tb, ob, rfl, htb, hob⟩ := hb
  obtain ⟨hf1, hf2⟩ := hf
  dsimp only at hta hoa htb hob hf1 hf2 ⊢
  obtain ⟨p1, q1, rfl⟩ := hta.len
  obtain ⟨p2, q2, rfl⟩ := hoa.len
  obtain ⟨p3, q3, rfl⟩ := htb.len
  obtain ⟨p4, q4, rfl⟩ := hob.len
  have HTA := Lib.hid hta
  have HTB := Lib.hid htb
  have HOA := Lib.hid hoa
  have HOB := Lib.hid hob
  have HF1 := Lib.hid hf1
  have HF2 := Lib.hid hf2
  clear hta htb hoa hob hf1 hf2
  go_enter Try.func13, Try.ntmps13
  go_upto_region 1 with fail
  refine world_new (fun X => Lies X w.heap.size (stO (.slice p1 toks.length q1) i (.slice p2 o.length q2) wt) ∧ Lies X (w.heap.size + 1) (stO (.slice p3 toks.length q3) i (.slice p4 o.length q4) wt) ∧ Below w.heap.size w X) ⟨(two_lie w _ _).1, (two_lie w _ _).2, below_two w _ _⟩ ?_
  rintro X ⟨l1, l2, bX⟩
  obtain ⟨c0, c1, c2, c3, -⟩ := l1.four
  obtain ⟨d0, d1, d2, d3, -⟩ := l2.four
  have TA := Lib.hid (HTA.out.below bX (Nat.le_refl _))
  have TB := Lib.hid (HTB.out.below bX (Nat.le_refl _))
  have OA := Lib.hid (HOA.out.below bX (Nat.le_refl _))
  have OB := Lib.hid (HOB.out.below bX (Nat.le_refl _))
  have BX := Lib.hid bX
  generalize w.heap.size + 1 = B2 at *
  clear l1 l2 bX HTA HTB HOA HOB
  go_wp2_with fail
  go_loopw [5] (fun iv wr => ∃ (k n : Nat), iv = .int .i64 (k : Int) ∧ wr = X.drewN n ∧ k ≤ toks.length) (fun iv _ => toks.length - (intOf iv).toNat)
  case atStart => exact ⟨0, 0, rfl, rfl, by omega⟩
  case round =>
    obtain ⟨k, n, rfl, rfl, hk⟩ := hrel
    by_cases hp : k < toks.length
    · obtain ⟨t, ht⟩ : ∃ t, toks[k]? = some t := ⟨_, List.getElem?_eq_getElem hp⟩
      obtain ⟨ga, fa, ca, e1, ha1, ha2⟩ := TA.out.cells (by omega)
      obtain ⟨gb, fb, cb, e2, hb1, hb2⟩ := TB.out.cells (by omega)
      simp only [Value.slice.injEq] at e1 e2
      obtain ⟨rfl, -, rfl⟩ := e1
      obtain ⟨rfl, -, rfl⟩ := e2
      have HA : TkIn X ga fa toks := ⟨ha1, ha2⟩
      have HB : TkIn X gb fb toks := ⟨hb1, hb2⟩
      obtain ⟨a0, a1, a2, a3⟩ := HA.four k t ht
      obtain ⟨b0, b1, b2, b3⟩ := HB.four k t ht
      have hw := idx_at k toks.length hp (Nat.le_trans HF1.out (by decide))
      have HW := Lib.hid hw
      clear ht hw HA HB ha1 ha2 hb1 hb2
      have i0 : (0 : Int) ≤ (k : Int) := by omega
      have i1 : (k : Int) < (toks.length : Int) := by omega
      go_wp2_with fail
      go_quiet (fail)
      go_wp2_with fail
      go_roundw
      case rel =>
        rw [HW.out]
        exact ⟨k + 1, _, by go_num, rfl, by omega⟩
      case measure =>
        rw [HW.out]
        simp [intOf]
        omega
    · have lt1 : decide ((k : Int) < (toks.length : Int)) = false := decide_eq_false (by omega)
      have lt2 : decide (k < toks.length) = false := decide_eq_false hp
      go_wp2_with fail
      go_loopw [6] (fun iv wr => ∃ (j m : Nat), iv = .int .i64 (j : Int) ∧ wr = X.drewN m ∧ j ≤ o.length) (fun iv _ => o.length - (intOf iv).toNat)
      case atStart => exact ⟨0, n, rfl, rfl, by omega⟩
      case round =>
        obtain ⟨j, m, rfl, rfl, hj⟩ := hrel
        by_cases hq : j < o.length
        · obtain ⟨x, hx⟩ : ∃ x, o[j]? = some x := ⟨_, List.getElem?_eq_getElem hq⟩
          obtain ⟨ga, fa, ca, e1, -, ha1, ha2⟩ := OA.out.cells (by omega)
          obtain ⟨gb, fb, cb, e2, -, hb1, hb2⟩ := OB.out.cells (by omega)
          simp only [Value.slice.injEq] at e1 e2
          obtain ⟨rfl, -, rfl⟩ := e1
          obtain ⟨rfl, -, rfl⟩ := e2
          have a0 := ha2 j x hx
          have b0 := hb2 j x hx
          have hw := idx_at j o.length hq (Nat.le_trans HF2.out (by decide))
          have HW := Lib.hid hw
          clear hx hw ha1 ha2 hb1 hb2
          have i0 : (0 : Int) ≤ (j : Int) := by omega
          have i1 : (j : Int) < (o.length : Int) := by omega
          go_wp2_with fail
          go_quiet (fail)
          go_wp2_with fail
          go_roundw
          case rel =>
            rw [HW.out]
            exact ⟨j + 1, _, by go_num, rfl, by omega⟩
          case measure =>
            rw [HW.out]
            simp [intOf]
            omega
        · have lt3 : decide ((j : Int) < (o.length : Int)) = false := decide_eq_false (by omega)
          have lt4 : decide (j < o.length) = false := decide_eq_false hq
          go_wp2_with fail
          go_ret
          exact ⟨rfl, below_drewN BX.out m⟩
end Go.Proofs.Ytmcdclhfjjplnaa.Lay
