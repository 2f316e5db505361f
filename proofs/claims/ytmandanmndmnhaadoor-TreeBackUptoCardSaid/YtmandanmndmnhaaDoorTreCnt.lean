/-
  The document's own Size, Depth and Right of trees. Conditions: at most 2^40 nodes (Size, Depth); none (Right).
-/
import Derived.Test.YtmandanmndmnhaaDoorTreSam
namespace Go.Proofs.YtmandanmndmnhaaDoor.Tre
open Tks Go.RowKit
set_option linter.unusedSimpArgs false
set_option linter.unusedVariables false

theorem drop_zero (f : Fo) : dropF 0 f = f := by cases f <;> rfl
theorem mem_size {h : Hd} {k f : Fo} (m : MemF h k f) : 1 + sizeF k ≤ sizeF f := by
  induction m with
  | head r =>
    simp only [sizeF]
    omega
  | tail h' k' r' _ ih =>
    simp only [sizeF]
    omega
theorem mem_deep {h : Hd} {k f : Fo} (m : MemF h k f) : 1 + deepF k ≤ deepF f := by
  induction m with
  | head r =>
    simp only [deepF]
    omega
  | tail h' k' r' _ ih =>
    simp only [deepF]
    omega
set_option maxRecDepth 1000000 in
set_option maxHeartbeats 8000000 in
theorem refsize_any (h : Hd) (k : Fo) : ∀ (v : Value) (w : World), NdArg w v h k → sizeF k ≤ 1099511627776 →
    Calls Tryd.prog 14 #[v] w fun e w' => e = .returned (.int .i64 ((1 + sizeF k : Nat) : Int)) ∧ Below w.heap.size w w' := by
  refine all_trees (P := fun h k => ∀ (v : Value) (w : World), NdArg w v h k → sizeF k ≤ 1099511627776 → Calls Tryd.prog 14 #[v] w fun e w' => e = .returned (.int .i64 ((1 + sizeF k : Nat) : Int)) ∧ Below w.heap.size w w') ?_ h k
  intro h k ih v w ha hsz
  obtain ⟨ka, rfl, hka⟩ := ha
  obtain ⟨pa, qa, rfl⟩ := hka.len
  have HA := Lib.hid hka
  have HM := Lib.hid hka.max
  have IH := Lib.hid ih
  have HZ := Lib.hid hsz
  unfold ndV
  clear hka ih hsz
  go_enter Tryd.func14, Tryd.ntmps14
  go_upto_region 1 with fail
  refine gen_world (fun X => Below w.heap.size w X ∧ Lies X w.heap.size (ndO h (.slice pa (len k) qa))) ⟨below_one w _, Lies.new w _⟩ ?_
  rintro X ⟨bX, lX⟩
  have BX := Lib.hid bX
  have LX := Lib.hid lX
  clear bX lX
  go_wp2_with fail
  go_loopw [3, 4] (fun sv iv wr => ∃ n m : Nat, sv = .int .i64 (m : Int) ∧ iv = .int .i64 (n : Int) ∧ n ≤ len k ∧ m + sizeF (dropF n k) = 1 + sizeF k ∧ Below X.heap.size X wr) (fun _ iv _ => len k - (intOf iv).toNat)
  case atStart => exact ⟨0, 1, rfl, rfl, Nat.zero_le _, by rw [drop_zero], Below.refl _ _⟩
  case round =>
    obtain ⟨n, m, rfl, rfl, hn, hs, hb⟩ := hrel
    have lw := LX.out.below hb LX.out.lt
    obtain ⟨a0, a1, a2, a3, a4, a5⟩ := lw.node
    have HSN := Lib.hid hs
    have BN := Lib.hid hb
    have i0 : (0 : Int) ≤ (n : Int) := by omega
    by_cases hp : n < len k
    · obtain ⟨h1, k1, e1⟩ := drop_cons n k hp
      have bw := BX.out.trans (hb.mono BX.out.size)
      have ha := HA.out.below bw (Nat.le_refl _)
      rcases ha with ⟨e, _⟩ | ⟨ba, oa, ca, ea, -, la, fa⟩
      · rw [e] at hp
        exact absurd hp (by simp [len])
      simp only [Value.slice.injEq] at ea
      obtain ⟨rfl, -, rfl⟩ := ea
      obtain ⟨v1, p0, p1, p2, p3, p4, p5, pk⟩ := fa.six e1
      have hm := mem_size (mem_drop n k e1)
      have C := Lib.hid (IH.out h1 k1 (mem_drop n k e1) (ndV h1 v1) wr ⟨v1, rfl, pk⟩ (by have := HZ.out; omega))
      unfold ndV at C
      have i1 : (n : Int) < (len k : Int) := by omega
      obtain ⟨w1, w2⟩ := idx_max n (len k) hp HM.out
      have HE : Hid (m + (1 + sizeF k1) + sizeF (dropF (n + 1) k) = 1 + sizeF k) := by
        have := HSN.out
        rw [e1] at this
        simp only [sizeF] at this
        unfold Hid
        omega
      obtain ⟨s1, hs1⟩ : ∃ s1, s1 = 1 + sizeF k1 := ⟨_, rfl⟩
      rw [← hs1] at C HE
      have wr1 : wrap64 ((m : Int) + (s1 : Int)) = (m : Int) + (s1 : Int) := IntWalk.wrap64_in _ ⟨by omega, by have := HE.out; have := HZ.out; omega⟩
      have wr2 : IntKind.i64.wrap ((m : Int) + (s1 : Int)) = (m : Int) + (s1 : Int) := by rw [IntWalk.i64_left]; exact wr1
      have HP := Lib.hid hp
      clear hp hs hb pk fa bw lw e1 hs1 hm
      go_wp2_with (first
        | (go_at_call 14; refine C.out.mono ?_; rintro e w2 ⟨rfl, b2⟩; have B2 := Lib.hid b2; clear b2))
      go_roundw
      case rel => exact ⟨n + 1, m + s1, by go_num, by go_num, HP.out, HE.out, afterL BN.out B2.out⟩
      case measure => have := HP.out; simp [intOf]; omega
    · have hq : n = len k := by omega
      have HT : Hid (m = 1 + sizeF k) := by
        have := HSN.out
        rw [hq, drop_len] at this
        exact this
      go_wp2_with fail
      go_ret
      exact ⟨by rw [HT.out]; rfl, BX.out.trans (BN.out.mono BX.out.size)⟩
set_option maxRecDepth 1000000 in
set_option maxHeartbeats 8000000 in
theorem refdepth_any (h : Hd) (k : Fo) : ∀ (v : Value) (w : World), NdArg w v h k → deepF k ≤ 1099511627776 →
    Calls Tryd.prog 16 #[v] w fun e w' => e = .returned (.int .i64 ((1 + deepF k : Nat) : Int)) ∧ Below w.heap.size w w' := by
  refine all_trees (P := fun h k => ∀ (v : Value) (w : World), NdArg w v h k → deepF k ≤ 1099511627776 → Calls Tryd.prog 16 #[v] w fun e w' => e = .returned (.int .i64 ((1 + deepF k : Nat) : Int)) ∧ Below w.heap.size w w') ?_ h k
  intro h k ih v w ha hsz
  obtain ⟨ka, rfl, hka⟩ := ha
  obtain ⟨pa, qa, rfl⟩ := hka.len
  have HA := Lib.hid hka
  have HM := Lib.hid hka.max
  have IH := Lib.hid ih
  have HZ := Lib.hid hsz
  unfold ndV
  clear hka ih hsz
  go_enter Tryd.func16, Tryd.ntmps16
  go_upto_region 1 with fail
  refine gen_world (fun X => Below w.heap.size w X ∧ Lies X w.heap.size (ndO h (.slice pa (len k) qa))) ⟨below_one w _, Lies.new w _⟩ ?_
  rintro X ⟨bX, lX⟩
  have BX := Lib.hid bX
  have LX := Lib.hid lX
  clear bX lX
  go_wp2_with fail
  go_loopw [3, 4] (fun sv iv wr => ∃ n m : Nat, sv = .int .i64 (m : Int) ∧ iv = .int .i64 (n : Int) ∧ n ≤ len k ∧ (max m (deepF (dropF n k)) = deepF k ∧ m ≤ deepF k) ∧ Below X.heap.size X wr) (fun _ iv _ => len k - (intOf iv).toNat)
  case atStart => exact ⟨0, 0, rfl, rfl, Nat.zero_le _, ⟨by rw [drop_zero]; omega, Nat.zero_le _⟩, Below.refl _ _⟩
  case round =>
    obtain ⟨n, m, rfl, rfl, hn, hs, hb⟩ := hrel
    have lw := LX.out.below hb LX.out.lt
    obtain ⟨a0, a1, a2, a3, a4, a5⟩ := lw.node
    have HSN := Lib.hid hs
    have BN := Lib.hid hb
    have i0 : (0 : Int) ≤ (n : Int) := by omega
    by_cases hp : n < len k
    · obtain ⟨h1, k1, e1⟩ := drop_cons n k hp
      have bw := BX.out.trans (hb.mono BX.out.size)
      have ha := HA.out.below bw (Nat.le_refl _)
      rcases ha with ⟨e, _⟩ | ⟨ba, oa, ca, ea, -, la, fa⟩
      · rw [e] at hp
        exact absurd hp (by simp [len])
      simp only [Value.slice.injEq] at ea
      obtain ⟨rfl, -, rfl⟩ := ea
      obtain ⟨v1, p0, p1, p2, p3, p4, p5, pk⟩ := fa.six e1
      have hm := mem_deep (mem_drop n k e1)
      have C := Lib.hid (IH.out h1 k1 (mem_drop n k e1) (ndV h1 v1) wr ⟨v1, rfl, pk⟩ (by have := HZ.out; omega))
      unfold ndV at C
      have i1 : (n : Int) < (len k : Int) := by omega
      obtain ⟨w1, w2⟩ := idx_max n (len k) hp HM.out
      have HE : Hid (max (max m (1 + deepF k1)) (deepF (dropF (n + 1) k)) = deepF k ∧ max m (1 + deepF k1) ≤ deepF k) := by
        have := HSN.out
        rw [e1] at this
        simp only [deepF] at this
        unfold Hid
        omega
      obtain ⟨s1, hs1⟩ : ∃ s1, s1 = 1 + deepF k1 := ⟨_, rfl⟩
      rw [← hs1] at C HE
      have HP := Lib.hid hp
      clear hp hs hb pk fa bw lw e1 hs1 hm
      by_cases hgt : m < s1
      · have g1 : decide ((m : Int) < (s1 : Int)) = true := decide_eq_true (by omega)
        have g2 : decide (m < s1) = true := decide_eq_true hgt
        have HE2 : Hid (max s1 (deepF (dropF (n + 1) k)) = deepF k ∧ s1 ≤ deepF k) := by have := HE.out; unfold Hid; omega
        clear hgt
        go_wp2_with (first
          | (go_at_call 16; refine C.out.mono ?_; rintro e w2 ⟨rfl, b2⟩; have B2 := Lib.hid b2; clear b2))
        go_roundw
        case rel => exact ⟨n + 1, s1, by go_num, by go_num, HP.out, HE2.out, afterL BN.out B2.out⟩
        case measure => have := HP.out; simp [intOf]; omega
      · have g1 : decide ((m : Int) < (s1 : Int)) = false := decide_eq_false (by omega)
        have g2 : decide (m < s1) = false := decide_eq_false hgt
        have HE2 : Hid (max m (deepF (dropF (n + 1) k)) = deepF k ∧ m ≤ deepF k) := by have := HE.out; unfold Hid; omega
        clear hgt
        go_wp2_with (first
          | (go_at_call 16; refine C.out.mono ?_; rintro e w2 ⟨rfl, b2⟩; have B2 := Lib.hid b2; clear b2))
        go_roundw
        case rel => exact ⟨n + 1, m, by go_num, by go_num, HP.out, HE2.out, afterL BN.out B2.out⟩
        case measure => have := HP.out; simp [intOf]; omega
    · have hq : n = len k := by omega
      have HT : Hid (m = deepF k) := by
        have := HSN.out
        rw [hq, drop_len] at this
        simp only [deepF] at this
        unfold Hid
        omega
      have wr1 : wrap64 ((m : Int) + 1) = (m : Int) + 1 := IntWalk.wrap64_in _ ⟨by omega, by have := HT.out; have := HZ.out; omega⟩
      have wr2 : IntKind.i64.wrap ((m : Int) + 1) = (m : Int) + 1 := by rw [IntWalk.i64_left]; exact wr1
      go_wp2_with fail
      go_ret
      exact ⟨by rw [← HT.out]; show Ending.returned (.int .i64 ((m : Int) + 1)) = _; rw [show ((1 + m : Nat) : Int) = (m : Int) + 1 from by omega], BX.out.trans (BN.out.mono BX.out.size)⟩
end Go.Proofs.YtmandanmndmnhaaDoor.Tre
