/-
  The document's own Leaves of trees. Conditions: at most 2^40 nodes.
-/
import Derived.Test.YtmandanmndmnhaaDoorTreCnt
namespace Go.Proofs.YtmandanmndmnhaaDoor.Tre
open Tks Go.RowKit
set_option linter.unusedSimpArgs false
set_option linter.unusedVariables false

def leavesN (h : Hd) (k : Fo) : List Tk := if h.kind = 1 then [tokH h] else leavesF k
theorem leaves_le : ∀ f : Fo, (leavesF f).length ≤ sizeF f
  | .nil => Nat.le_refl _
  | .cons h k r => by
    have := leaves_le k
    have := leaves_le r
    simp only [leavesF, sizeF, List.length_append]
    split
    · simp only [List.length_cons, List.length_nil]
      omega
    · omega
theorem Own.cat {w : World} {B : Nat} {v : Value} {a b : List Tk} (h : w.ownsRow B 42 4 v (a.length + b.length) (a.flatMap tkC ++ b.flatMap tkC)) : Own w B v (a ++ b) := by
  unfold Own
  rw [List.length_append, List.flatMap_append]
  exact h
theorem Own.less {w : World} {A B : Nat} {v : Value} {l : List Tk} (h : Own w B v l) (hb : A ≤ B) : Own w A v l :=
  ⟨h.1, h.2.imp id fun ⟨g, cap, cur, h1, h2, h3⟩ => ⟨g, cap, cur, h1, Nat.le_trans hb h2, h3⟩⟩
set_option maxRecDepth 1000000 in
set_option maxHeartbeats 8000000 in
theorem refleaves_any (h : Hd) (k : Fo) : ∀ (v : Value) (w : World), NdArg w v h k → sizeF k ≤ 1099511627776 →
    Calls Tryd.prog 19 #[v] w fun e w' => ∃ r, e = .returned r ∧ Own w' w.heap.size r (leavesN h k) ∧ Below w.heap.size w w' := by
  refine all_trees (P := fun h k => ∀ (v : Value) (w : World), NdArg w v h k → sizeF k ≤ 1099511627776 → Calls Tryd.prog 19 #[v] w fun e w' => ∃ r, e = .returned r ∧ Own w' w.heap.size r (leavesN h k) ∧ Below w.heap.size w w') ?_ h k
  intro h k ih v w ha hsz
  obtain ⟨ka, rfl, hka⟩ := ha
  obtain ⟨pa, qa, rfl⟩ := hka.len
  have HA := Lib.hid hka
  have HM := Lib.hid hka.max
  have IH := Lib.hid ih
  have HZ := Lib.hid hsz
  unfold ndV
  clear hka ih hsz
  obtain ⟨res, hres⟩ : ∃ res, leavesN h k = res := ⟨_, rfl⟩
  have HR := Lib.hid hres
  rw [hres]
  clear hres
  go_enter Tryd.func19, Tryd.ntmps19
  go_upto_region 1 with fail
  refine gen_world (fun X => Below w.heap.size w X ∧ Lies X w.heap.size (ndO h (.slice pa (len k) qa))) ⟨below_one w _, Lies.new w _⟩ ?_
  rintro X ⟨bX, lX⟩
  have BX := Lib.hid bX
  have LX := Lib.hid lX
  obtain ⟨a0, a1, a2, a3, a4, a5⟩ := lX.node
  clear bX lX
  by_cases z0 : h.kind = 1
  · have z1 : (h.kind == 1) = true := beq_iff_eq.2 z0
    have HF : Hid ([tokH h] = res) := by rw [← HR.out]; unfold leavesN; rw [if_pos z0]; rfl
    clear z0
    go_wp2_with fail
    go_ret
    refine ⟨_, rfl, ?_, BX.out.trans ((below_one X _).mono BX.out.size)⟩
    rw [← HF.out]
    exact Own.less (World.ownsRow_lit X (tkC (tokH h)).toArray 1 (Nat.le_refl _) (by decide) rfl) BX.out.size
  · have z1 : (h.kind == 1) = false := beq_eq_false_iff_ne.2 z0
    have HS : Hid (leavesF k = res) := by rw [← HR.out]; unfold leavesN; rw [if_neg z0]; rfl
    clear z0 HR
    go_wp2_with fail
    go_loopw [3, 4] (fun ov iv wr => ∃ (n : Nat) (acc : List Tk), iv = .int .i64 (n : Int) ∧ n ≤ len k ∧ acc ++ leavesF (dropF n k) = res ∧ Own wr X.heap.size ov acc ∧ Below X.heap.size X wr) (fun _ iv _ => len k - (intOf iv).toNat)
    case atStart => exact ⟨0, [], rfl, Nat.zero_le _, by rw [drop_zero]; exact HS.out, Own.nil _ _, Below.refl _ _⟩
    case round =>
      obtain ⟨n, acc, rfl, hn, hs, hown, hb⟩ := hrel
      have lw := LX.out.below hb LX.out.lt
      clear a0 a1 a2 a3 a4 a5
      obtain ⟨a0, a1, a2, a3, a4, a5⟩ := lw.node
      have HSN := Lib.hid hs
      have BN := Lib.hid hb
      have OW := Lib.hid hown
      have i0 : (0 : Int) ≤ (n : Int) := by omega
      by_cases hp : n < len k
      · obtain ⟨h1, k1, e1⟩ := drop_cons n k hp
        have bw := BX.out.trans (hb.mono BX.out.size)
        have ha := HA.out.below bw (Nat.le_refl _)
        rcases ha with ⟨e, _⟩ | ⟨ba, oa, ca, ea, -, la, fa⟩
        · rw [e] at hp
          exact absurd hp (by simp [len])
        simp only [Value.slice.injEq] at ea
        obtain ⟨rfl, -, rfl⟩ := ea
        obtain ⟨v1, p0, p1, p2, p3, p4, p5, pk⟩ := fa.six e1
        have hm := mem_size (mem_drop n k e1)
        have C := Lib.hid (IH.out h1 k1 (mem_drop n k e1) (ndV h1 v1) wr ⟨v1, rfl, pk⟩ (by have := HZ.out; omega))
        unfold ndV at C
        have i1 : (n : Int) < (len k : Int) := by omega
        obtain ⟨w1, w2⟩ := idx_max n (len k) hp HM.out
        have HE : Hid ((acc ++ leavesN h1 k1) ++ leavesF (dropF (n + 1) k) = res) := by
          have := HSN.out
          rw [e1] at this
          unfold Hid
          rw [← this, List.append_assoc]
          rfl
        have HLN : Hid (acc.length + (leavesN h1 k1).length ≤ 1099511627776) := by
          have h2 := congrArg List.length HE.out
          have h3 := congrArg List.length HS.out
          have h4 := leaves_le k
          have h5 := HZ.out
          simp only [List.length_append] at h2
          unfold Hid
          omega
        have HP := Lib.hid hp
        clear hp hs hb hown pk fa bw lw e1 hm
        generalize leavesN h1 k1 = lk at C HE HLN
        go_wp2_with (first
          | (go_at_call 19; refine C.out.mono ?_; rintro e w2 ⟨r2, rfl, o2, b2⟩; have B2 := Lib.hid b2; have O2 := Lib.hid o2; have OW2 := Lib.hid (OW.out.below b2 (Nat.le_refl _)); clear b2 o2)
          | (at_builtin; refine append_toks w2 rfl _ _ rfl X.heap.size u3 acc.length (acc.flatMap tkC) rfl OW2.out r2 lk rfl O2.out.arg (by have := HLN.out; omega) (by have := BN.out.size; have := B2.out.size; omega) ?_; intro v3 w3 h3 g3 e3; have O3 := Lib.hid (Own.cat h3); have B3 : Hid (Below X.heap.size w2 w3) := Below.grown (Below.refl _ _) g3 (by have := BN.out.size; have := B2.out.size; omega) (fun q hq => (World.ownsRow.lt OW2.out q hq).1); clear h3 g3 e3))
        go_roundw
        case rel => exact ⟨n + 1, acc ++ lk, by go_num, HP.out, HE.out, O3.out, (BN.out.trans (B2.out.mono BN.out.size)).trans B3.out⟩
        case measure => have := HP.out; simp [intOf]; omega
      · have hq : n = len k := by omega
        have HT : Hid (acc = res) := by
          have := HSN.out
          rw [hq, drop_len] at this
          unfold Hid
          rw [← this]
          simp [leavesF]
        go_wp2_with fail
        go_ret
        exact ⟨_, rfl, by rw [← HT.out]; exact Own.less OW.out BX.out.size, BX.out.trans (BN.out.mono BX.out.size)⟩
end Go.Proofs.YtmandanmndmnhaaDoor.Tre
