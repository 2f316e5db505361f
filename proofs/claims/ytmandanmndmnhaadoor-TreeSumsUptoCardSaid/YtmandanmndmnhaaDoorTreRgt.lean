/-
  The document's own Right of trees. No condition.
-/
import Derived.Test.YtmandanmndmnhaaDoorTreCnt
namespace Go.Proofs.YtmandanmndmnhaaDoor.Tre
open Tks Go.RowKit
set_option linter.unusedSimpArgs false
set_option linter.unusedVariables false

set_option maxRecDepth 1000000 in
set_option maxHeartbeats 8000000 in
theorem refright_any (h : Hd) (k : Fo) : ∀ (v : Value) (w : World), NdArg w v h k →
    Calls Tryd.prog 36 #[v] w fun e w' => e = .returned (.bool (rightN h (len k) (rightF k))) ∧ Below w.heap.size w w' := by
  refine all_trees (P := fun h k => ∀ (v : Value) (w : World), NdArg w v h k → Calls Tryd.prog 36 #[v] w fun e w' => e = .returned (.bool (rightN h (len k) (rightF k))) ∧ Below w.heap.size w w') ?_ h k
  intro h k ih v w ha
  obtain ⟨ka, rfl, hka⟩ := ha
  obtain ⟨pa, qa, rfl⟩ := hka.len
  have HA := Lib.hid hka
  have HM := Lib.hid hka.max
  have IH := Lib.hid ih
  unfold ndV
  clear hka ih
  obtain ⟨res, hres⟩ : ∃ res, rightN h (len k) (rightF k) = res := ⟨_, rfl⟩
  have HR := Lib.hid hres
  rw [hres]
  clear hres
  go_enter Tryd.func36, Tryd.ntmps36
  go_upto_region 1 with fail
  refine gen_world (fun X => Below w.heap.size w X ∧ Lies X w.heap.size (ndO h (.slice pa (len k) qa))) ⟨below_one w _, Lies.new w _⟩ ?_
  rintro X ⟨bX, lX⟩
  have BX := Lib.hid bX
  have LX := Lib.hid lX
  obtain ⟨a0, a1, a2, a3, a4, a5⟩ := lX.node
  clear bX lX
  by_cases x0 : h.kind < 1
  · have x1 : decide (h.kind < 1) = true := decide_eq_true x0
    have HF : Hid (false = res) := by rw [← HR.out]; unfold Hid rightN; rw [decide_eq_false (by omega : ¬ 1 ≤ h.kind)]; rfl
    clear x0
    go_wp2_with fail
    go_ret
    exact ⟨by rw [← HF.out]; rfl, BX.out⟩
  have x1 : decide (h.kind < 1) = false := decide_eq_false x0
  have x1b : decide (1 ≤ h.kind) = true := decide_eq_true (by omega)
  by_cases y0 : 54 ≤ h.kind
  · have y1 : decide (54 ≤ h.kind) = true := decide_eq_true y0
    have HF : Hid (false = res) := by rw [← HR.out]; unfold Hid rightN; rw [x1b, decide_eq_false (by omega : ¬ h.kind < 54)]; rfl
    clear x0 y0
    go_wp2_with fail
    go_ret
    exact ⟨by rw [← HF.out]; rfl, BX.out⟩
  have y1 : decide (54 ≤ h.kind) = false := decide_eq_false y0
  have y1b : decide (h.kind < 54) = true := decide_eq_true (by omega)
  by_cases z0 : h.kind = 1
  · have z1 : (h.kind == 1) = true := beq_iff_eq.2 z0
    have HS : Hid (((len k == 0) && (decide (0 ≤ h.form) && decide (h.form < 22))) = res) := by rw [← HR.out]; unfold Hid rightN; rw [x1b, y1b, if_pos z0]; rfl
    have l0 : ((len k : Int) == 0) = (len k == 0) := by
      by_cases q : len k = 0
      · rw [q]; rfl
      · rw [beq_eq_false_iff_ne.2 q, beq_eq_false_iff_ne]; omega
    generalize (len k == 0) = b1 at *
    clear x0 y0 z0 HR
    cases b1 with
    | false =>
      have HF : Hid (false = res) := HS.out
      go_wp2_with fail
      go_ret
      exact ⟨by rw [← HF.out]; rfl, BX.out⟩
    | true =>
      by_cases f0 : 0 ≤ h.form
      · have f1 : decide (0 ≤ h.form) = true := decide_eq_true f0
        have HF : Hid (decide (h.form < 22) = res) := by rw [← HS.out, f1]; rfl
        clear f0
        go_wp2_with fail
        go_ret
        exact ⟨by rw [← HF.out]; rfl, BX.out⟩
      · have f1 : decide (0 ≤ h.form) = false := decide_eq_false f0
        have HF : Hid (false = res) := by rw [← HS.out, f1]; rfl
        clear f0
        go_wp2_with fail
        go_ret
        exact ⟨by rw [← HF.out]; rfl, BX.out⟩
  have z1 : (h.kind == 1) = false := beq_eq_false_iff_ne.2 z0
  have HS : Hid (((h.text.data.toList == []) && (decide (0 ≤ h.form) && (decide (h.form ≤ 1) && rightF k))) = res) := by rw [← HR.out]; unfold Hid rightN; rw [x1b, y1b, if_neg z0]; rfl
  clear x0 y0 z0 HR
  cases t0 : (h.text.data.toList == []) with
  | false =>
    have t1 : (h.text.toList == []) = false := by rw [Lib.toList_data]; exact t0
    have t2 : (h.text.toList != []) = true := by rw [bne, t1]; rfl
    have t3 : (h.text.data.toList != []) = true := by rw [bne, t0]; rfl
    have t4 : h.text.data.toList.isEmpty = false := by rw [← t0]; cases h.text.data.toList <;> rfl
    have t5 : h.text.toList.isEmpty = false := by rw [Lib.toList_data]; exact t4
    have HF : Hid (false = res) := by rw [← HS.out, t0]; rfl
    go_wp2_with fail
    go_ret
    exact ⟨by rw [← HF.out]; rfl, BX.out⟩
  | true =>
    have t1 : (h.text.toList == []) = true := by rw [Lib.toList_data]; exact t0
    have t2 : (h.text.toList != []) = false := by rw [bne, t1]; rfl
    have t3 : (h.text.data.toList != []) = false := by rw [bne, t0]; rfl
    have t4 : h.text.data.toList.isEmpty = true := by rw [← t0]; cases h.text.data.toList <;> rfl
    have t5 : h.text.toList.isEmpty = true := by rw [Lib.toList_data]; exact t4
    by_cases f0 : h.form < 0
    · have f1 : decide (h.form < 0) = true := decide_eq_true f0
      have HF : Hid (false = res) := by rw [← HS.out, t0, decide_eq_false (by omega : ¬ 0 ≤ h.form)]; rfl
      clear f0
      go_wp2_with fail
      go_ret
      exact ⟨by rw [← HF.out]; rfl, BX.out⟩
    have f1 : decide (h.form < 0) = false := decide_eq_false f0
    by_cases g0 : 1 < h.form
    · have g1 : decide (1 < h.form) = true := decide_eq_true g0
      have HF : Hid (false = res) := by rw [← HS.out, t0, decide_eq_true (by omega : 0 ≤ h.form), decide_eq_false (by omega : ¬ h.form ≤ 1)]; rfl
      clear f0 g0
      go_wp2_with fail
      go_ret
      exact ⟨by rw [← HF.out]; rfl, BX.out⟩
    have g1 : decide (1 < h.form) = false := decide_eq_false g0
    have HK : Hid (rightF k = res) := by rw [← HS.out, t0, decide_eq_true (by omega : 0 ≤ h.form), decide_eq_true (by omega : h.form ≤ 1)]; rfl
    clear f0 g0 HS
    go_wp2_with fail
    go_loopw [3] (fun iv wr => ∃ n : Nat, iv = .int .i64 (n : Int) ∧ n ≤ len k ∧ rightF (dropF n k) = res ∧ Below X.heap.size X wr) (fun iv _ => len k - (intOf iv).toNat)
    case atStart => exact ⟨0, rfl, Nat.zero_le _, by rw [drop_zero]; exact HK.out, Below.refl _ _⟩
    case round =>
      obtain ⟨n, rfl, hn, hs, hb⟩ := hrel
      have lw := LX.out.below hb LX.out.lt
      clear a0 a1 a2 a3 a4 a5
      obtain ⟨a0, a1, a2, a3, a4, a5⟩ := lw.node
      have HSN := Lib.hid hs
      have BN := Lib.hid hb
      have i0 : (0 : Int) ≤ (n : Int) := by omega
      by_cases hp : n < len k
      · obtain ⟨h1, k1, e1⟩ := drop_cons n k hp
        have bw := BX.out.trans (hb.mono BX.out.size)
        have ha := HA.out.below bw (Nat.le_refl _)
        rcases ha with ⟨e, _⟩ | ⟨ba, oa, ca, ea, -, la, fa⟩
        · rw [e] at hp
          exact absurd hp (by simp [len])
        simp only [Value.slice.injEq] at ea
        obtain ⟨rfl, -, rfl⟩ := ea
        obtain ⟨v1, p0, p1, p2, p3, p4, p5, pk⟩ := fa.six e1
        have C := Lib.hid (IH.out h1 k1 (mem_drop n k e1) (ndV h1 v1) wr ⟨v1, rfl, pk⟩)
        unfold ndV at C
        have i1 : (n : Int) < (len k : Int) := by omega
        obtain ⟨w1, w2⟩ := idx_max n (len k) hp HM.out
        have HE : Hid ((rightN h1 (len k1) (rightF k1) && rightF (dropF (n + 1) k)) = res) := by
          have := HSN.out
          rw [e1] at this
          exact this
        have HP := Lib.hid hp
        clear hp hs hb pk fa bw lw e1
        generalize rightN h1 (len k1) (rightF k1) = r at C HE
        cases r with
        | false =>
          have HF : Hid (false = res) := HE.out
          go_wp2_with (first
            | (go_at_call 36; refine C.out.mono ?_; rintro e w2 ⟨rfl, b2⟩; have B2 := Lib.hid b2; clear b2))
          go_ret
          exact ⟨by rw [← HF.out]; rfl, BX.out.trans ((BN.out.trans (B2.out.mono BN.out.size)).mono BX.out.size)⟩
        | true =>
          have HT : Hid (rightF (dropF (n + 1) k) = res) := by
            have := HE.out
            rw [Bool.true_and] at this
            exact this
          go_wp2_with (first
            | (go_at_call 36; refine C.out.mono ?_; rintro e w2 ⟨rfl, b2⟩; have B2 := Lib.hid b2; clear b2))
          go_roundw
          case rel => exact ⟨n + 1, by go_num, HP.out, HT.out, afterL BN.out B2.out⟩
          case measure => have := HP.out; simp [intOf]; omega
      · have hq : n = len k := by omega
        have HT : Hid (true = res) := by
          have := HSN.out
          rw [hq, drop_len] at this
          exact this
        go_wp2_with fail
        go_ret
        exact ⟨by rw [← HT.out]; rfl, BX.out.trans (BN.out.mono BX.out.size)⟩
end Go.Proofs.YtmandanmndmnhaaDoor.Tre
