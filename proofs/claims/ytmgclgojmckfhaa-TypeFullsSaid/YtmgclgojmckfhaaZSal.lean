/-
  The document's own SameAll of trees: places too. No condition.
-/
import Derived.Test.YtmgclgojmckfhaaZTreA
import Derived.Deep.QuietTactic
import Derived.BigQuiet
import Derived.Deep.RegionWith
import Derived.Deep.RegionHeld3
import Derived.Deep.Cut
namespace Go.Proofs.Ytmgclgojmckfhaa.Tre
open Tks Go.RowKit
set_option linter.unusedSimpArgs false
set_option linter.unusedVariables false

/-- The same, places too. -/
def sameAH (a b : Hd) : Bool := a.kind == b.kind && (a.form == b.form && (a.text.data.toList == b.text.data.toList && (a.line == b.line && a.col == b.col)))
def sameAF : Fo → Fo → Bool
  | .nil, .nil => true
  | .cons a k r, .cons b l q => (sameAH a b && sameAF k l) && sameAF r q
  | _, _ => false
theorem sameAF_len : ∀ {a b : Fo}, sameAF a b = true → len a = len b
  | .nil, .nil, _ => rfl
  | .nil, .cons _ _ _, h => by cases h
  | .cons _ _ _, .nil, h => by cases h
  | .cons a k r, .cons b l q, h => by
    simp only [sameAF, Bool.and_eq_true] at h
    simp only [len]
    rw [sameAF_len h.2]
theorem sameAF_self : ∀ a : Fo, sameAF a a = true
  | .nil => rfl
  | .cons h k r => by simp [sameAF, sameAH, sameAF_self k, sameAF_self r]
theorem sameAF_lens {k l : Fo} (h : len k ≠ len l) : sameAF k l = false := by
  cases e : sameAF k l with
  | false => rfl
  | true => exact absurd (sameAF_len e) h
set_option maxRecDepth 1000000 in
set_option maxHeartbeats 8000000 in
theorem refsameall_any (h : Hd) (k : Fo) : ∀ (g : Hd) (l : Fo) (va vb : Value) (w : World), NdArg w va h k → NdArg w vb g l →
    Calls Try.prog 24 #[va, vb] w fun e w' => e = .returned (.bool (sameAH h g && sameAF k l)) ∧ Below w.heap.size w w' := by
  refine all_trees (P := fun h k => ∀ (g : Hd) (l : Fo) (va vb : Value) (w : World), NdArg w va h k → NdArg w vb g l → Calls Try.prog 24 #[va, vb] w fun e w' => e = .returned (.bool (sameAH h g && sameAF k l)) ∧ Below w.heap.size w w') ?_ h k
  intro h k ih g l va vb w ha hb
  obtain ⟨ka, rfl, hka⟩ := ha
  obtain ⟨kb, rfl, hkb⟩ := hb
  obtain ⟨pa, qa, rfl⟩ := hka.len
  obtain ⟨pb, qb, rfl⟩ := hkb.len
  have HA := Lib.hid hka
  have HB := Lib.hid hkb
  have HM := Lib.hid hka.max
  have IH := Lib.hid ih
  unfold ndV
  clear hka hkb ih
  obtain ⟨res, hres⟩ : ∃ res, (sameAH h g && sameAF k l) = res := ⟨_, rfl⟩
  have HR := Lib.hid hres
  rw [hres]
  clear hres
  go_enter Try.func24, Try.ntmps24
  go_upto_region 1 with fail
  refine gen_world (fun X => Below w.heap.size w X ∧ Lies X w.heap.size (ndO h (.slice pa (len k) qa)) ∧ Lies X (w.heap.size + 1) (ndO g (.slice pb (len l) qb))) ⟨below_two' w _ _, (two_lie w _ _).1, (two_lie w _ _).2⟩ ?_
  rintro X ⟨bX, lX, mX⟩
  generalize hR2 : w.heap.size + 1 = R2 at *
  have n1 : ¬ R2 = w.heap.size := by omega
  have n2 : ¬ w.heap.size = R2 := by omega
  obtain ⟨a0, a1, a2, a3, a4, a5⟩ := lX.node
  obtain ⟨b0, b1, b2, b3, b4, b5⟩ := mX.node
  have BX := Lib.hid bX
  have LX := Lib.hid lX
  have MX := Lib.hid mX
  clear bX lX mX hR2
  cases x0 : (h.kind == g.kind) with
  | false =>
    have x1 : (h.kind != g.kind) = true := by rw [bne, x0]; rfl
    have HF : Hid (false = res) := by rw [← HR.out]; unfold Hid sameAH; rw [x0]; rfl
    go_wp2_with fail
    go_ret
    exact ⟨by rw [← HF.out]; rfl, BX.out⟩
  | true =>
    have x1 : (h.kind != g.kind) = false := by rw [bne, x0]; rfl
    cases y0 : (h.form == g.form) with
    | false =>
      have y1 : (h.form != g.form) = true := by rw [bne, y0]; rfl
      have HF : Hid (false = res) := by rw [← HR.out]; unfold Hid sameAH; rw [x0, y0]; rfl
      go_wp2_with fail
      go_ret
      exact ⟨by rw [← HF.out]; rfl, BX.out⟩
    | true =>
      have y1 : (h.form != g.form) = false := by rw [bne, y0]; rfl
      cases z0 : (h.text.data.toList == g.text.data.toList) with
      | false =>
        have z1 : (h.text.toList == g.text.toList) = false := by rw [Lib.toList_data, Lib.toList_data]; exact z0
        have z2 : (h.text.toList != g.text.toList) = true := by rw [bne, z1]; rfl
        have HF : Hid (false = res) := by rw [← HR.out]; unfold Hid sameAH; rw [x0, y0, z0]; rfl
        go_wp2_with fail
        go_ret
        exact ⟨by rw [← HF.out]; rfl, BX.out⟩
      | true =>
        have z1 : (h.text.toList == g.text.toList) = true := by rw [Lib.toList_data, Lib.toList_data]; exact z0
        have z2 : (h.text.toList != g.text.toList) = false := by rw [bne, z1]; rfl
        by_cases cu : (h.line == g.line) = false
        · have u1 : (h.line != g.line) = true := by rw [bne, cu]; rfl
          have HF : Hid (false = res) := by rw [← HR.out]; unfold Hid sameAH; rw [x0, y0, z0, cu]; rfl
          go_wp2_with fail
          go_ret
          exact ⟨by rw [← HF.out]; rfl, BX.out⟩
        have u0 : (h.line == g.line) = true := by cases e : (h.line == g.line) with | true => rfl | false => exact absurd e cu
        have u1 : (h.line != g.line) = false := by rw [bne, u0]; rfl
        clear cu
        by_cases cv : (h.col == g.col) = false
        · have v1 : (h.col != g.col) = true := by rw [bne, cv]; rfl
          have HF : Hid (false = res) := by rw [← HR.out]; unfold Hid sameAH; rw [x0, y0, z0, u0, cv]; rfl
          go_wp2_with fail
          go_ret
          exact ⟨by rw [← HF.out]; rfl, BX.out⟩
        have v0 : (h.col == g.col) = true := by cases e : (h.col == g.col) with | true => rfl | false => exact absurd e cv
        have v1 : (h.col != g.col) = false := by rw [bne, v0]; rfl
        clear cv
        have HS : Hid (sameAF k l = res) := by rw [← HR.out]; unfold Hid sameAH; rw [x0, y0, z0, u0, v0]; rfl
        by_cases hl : len k = len l
        · have l0 : ((len k : Int) != (len l : Int)) = false := by rw [bne_eq_false_iff_eq]; omega
          have l1 : (len k == len l) = true := by rw [beq_iff_eq]; exact hl
          have l2 : (len k != len l) = false := by rw [bne, l1]; rfl
          have HL := Lib.hid hl
          clear hl
          go_wp2_with fail
          go_loopw [5] (fun iv wr => ∃ n : Nat, iv = .int .i64 (n : Int) ∧ n ≤ len k ∧ sameAF (dropF n k) (dropF n l) = res ∧ Below X.heap.size X wr) (fun iv _ => len k - (intOf iv).toNat)
          case atStart => exact ⟨0, rfl, Nat.zero_le _, by have e : ∀ f : Fo, dropF 0 f = f := (fun f => by cases f <;> rfl); rw [e, e]; exact HS.out, Below.refl _ _⟩
          case round =>
            obtain ⟨n, rfl, hn, hs, hb⟩ := hrel
            have lw := LX.out.below hb LX.out.lt
            have mw := MX.out.below hb MX.out.lt
            clear a0 a1 a2 a3 a4 a5 b0 b1 b2 b3 b4 b5
            obtain ⟨a0, a1, a2, a3, a4, a5⟩ := lw.node
            obtain ⟨b0, b1, b2, b3, b4, b5⟩ := mw.node
            have HSN := Lib.hid hs
            have BN := Lib.hid hb
            have i0 : (0 : Int) ≤ (n : Int) := by omega
            by_cases hp : n < len k
            · have hq : n < len l := by rw [← HL.out]; exact hp
              obtain ⟨h1, k1, e1⟩ := drop_cons n k hp
              obtain ⟨g1, m1, e2⟩ := drop_cons n l hq
              have bw := BX.out.trans (hb.mono BX.out.size)
              have ha := HA.out.below bw (Nat.le_refl _)
              have hb2 := HB.out.below bw (Nat.le_refl _)
              rcases ha with ⟨e, _⟩ | ⟨ba, oa, ca, ea, -, la, fa⟩
              · rw [e] at hp
                exact absurd hp (by simp [len])
              rcases hb2 with ⟨e, _⟩ | ⟨bb, ob, cb, eb, -, lb, fb⟩
              · rw [e] at hq
                exact absurd hq (by simp [len])
              simp only [Value.slice.injEq] at ea eb
              obtain ⟨rfl, -, rfl⟩ := ea
              obtain ⟨rfl, -, rfl⟩ := eb
              obtain ⟨v1, p0, p1, p2, p3, p4, p5, pk⟩ := fa.six e1
              obtain ⟨v2, q0, q1, q2, q3, q4, q5, qk⟩ := fb.six e2
              have C := Lib.hid (fun W (hW : Below wr.heap.size wr W) => IH.out h1 k1 (mem_drop n k e1) g1 m1 (ndV h1 v1) (ndV g1 v2) W ⟨v1, rfl, pk.below hW (Nat.le_refl _)⟩ ⟨v2, rfl, qk.below hW (Nat.le_refl _)⟩)
              unfold ndV at C
              have i1 : (n : Int) < (len k : Int) := by omega
              have i2 : (n : Int) < (len l : Int) := by omega
              obtain ⟨w1, w2⟩ := idx_max n (len k) hp HM.out
              have HE : Hid (((sameAH h1 g1 && sameAF k1 m1) && sameAF (dropF (n + 1) k) (dropF (n + 1) l)) = res) := by
                have := HSN.out
                rw [e1, e2] at this
                exact this
              have KS : Hid (∀ w' : World, Below wr.heap.size wr w' → (w'.cell? ⟨w.heap.size, 5, none⟩ = some (.slice (some ⟨ba, oa, none⟩) (len k) qa) ∧ w'.cell? ⟨R2, 5, none⟩ = some (.slice (some ⟨bb, ob, none⟩) (len l) qb) ∧ w'.cell? ⟨ba, oa + n * 6, none⟩ = some (.int .i64 h1.kind) ∧ w'.cell? ⟨ba, oa + n * 6 + 1, none⟩ = some (.int .i64 h1.form) ∧ w'.cell? ⟨ba, oa + n * 6 + 2, none⟩ = some (.string h1.text) ∧ w'.cell? ⟨ba, oa + n * 6 + 3, none⟩ = some (.int .i64 h1.line) ∧ w'.cell? ⟨ba, oa + n * 6 + 4, none⟩ = some (.int .i64 h1.col) ∧ w'.cell? ⟨ba, oa + n * 6 + 5, none⟩ = some (v1) ∧ w'.cell? ⟨bb, ob + n * 6, none⟩ = some (.int .i64 g1.kind) ∧ w'.cell? ⟨bb, ob + n * 6 + 1, none⟩ = some (.int .i64 g1.form) ∧ w'.cell? ⟨bb, ob + n * 6 + 2, none⟩ = some (.string g1.text) ∧ w'.cell? ⟨bb, ob + n * 6 + 3, none⟩ = some (.int .i64 g1.line) ∧ w'.cell? ⟨bb, ob + n * 6 + 4, none⟩ = some (.int .i64 g1.col) ∧ w'.cell? ⟨bb, ob + n * 6 + 5, none⟩ = some (v2))) := by
                intro w' hw
                have hc : ∀ b o, b < wr.heap.size → w'.cell? ⟨b, o, none⟩ = wr.cell? ⟨b, o, none⟩ := fun b o hb => World.cell?_of_block (hw.block b hb)
                exact ⟨(hc _ _ lw.lt).trans a5, (hc _ _ mw.lt).trans b5, (hc _ _ la).trans p0, (hc _ _ la).trans p1, (hc _ _ la).trans p2, (hc _ _ la).trans p3, (hc _ _ la).trans p4, (hc _ _ la).trans p5, (hc _ _ lb).trans q0, (hc _ _ lb).trans q1, (hc _ _ lb).trans q2, (hc _ _ lb).trans q3, (hc _ _ lb).trans q4, (hc _ _ lb).trans q5⟩
              have HP := Lib.hid hp
              clear hp hq hs hb pk qk fa fb bw lw mw e1 e2
              generalize (sameAH h1 g1 && sameAF k1 m1) = r at C HE
              go_wp2_with fail
              go_region_held3 (fun w' => w'.cell? ⟨w.heap.size, 5, none⟩ = some (.slice (some ⟨ba, oa, none⟩) (len k) qa) ∧ w'.cell? ⟨R2, 5, none⟩ = some (.slice (some ⟨bb, ob, none⟩) (len l) qb) ∧ w'.cell? ⟨ba, oa + n * 6, none⟩ = some (.int .i64 h1.kind) ∧ w'.cell? ⟨ba, oa + n * 6 + 1, none⟩ = some (.int .i64 h1.form) ∧ w'.cell? ⟨ba, oa + n * 6 + 2, none⟩ = some (.string h1.text) ∧ w'.cell? ⟨ba, oa + n * 6 + 3, none⟩ = some (.int .i64 h1.line) ∧ w'.cell? ⟨ba, oa + n * 6 + 4, none⟩ = some (.int .i64 h1.col) ∧ w'.cell? ⟨ba, oa + n * 6 + 5, none⟩ = some (v1) ∧ w'.cell? ⟨bb, ob + n * 6, none⟩ = some (.int .i64 g1.kind) ∧ w'.cell? ⟨bb, ob + n * 6 + 1, none⟩ = some (.int .i64 g1.form) ∧ w'.cell? ⟨bb, ob + n * 6 + 2, none⟩ = some (.string g1.text) ∧ w'.cell? ⟨bb, ob + n * 6 + 3, none⟩ = some (.int .i64 g1.line) ∧ w'.cell? ⟨bb, ob + n * 6 + 4, none⟩ = some (.int .i64 g1.col) ∧ w'.cell? ⟨bb, ob + n * 6 + 5, none⟩ = some (v2)) (first | go_keep | exact S2) (first
                | (go_at_call 24; refine (C.out _ (bdrew (Below.refl _ _))).mono ?_; rintro e w2 ⟨rfl, b2⟩; have S2 := KS.out w2 (undrew b2); have B2 := Lib.hid (undrew b2); clear b2))
              have BF : Hid (Below w.heap.size w w2) := BX.out.trans ((BN.out.trans (B2.out.mono BN.out.size)).mono BX.out.size)
              have BF2 := Lib.hid (afterL BN.out B2.out)
              clear S2 B2
              cases r with
              | false =>
                have HF : Hid (false = res) := HE.out
                go_wp2_with fail
                go_ret
                exact ⟨by rw [← HF.out]; rfl, BF.out⟩
              | true =>
                have HT : Hid (sameAF (dropF (n + 1) k) (dropF (n + 1) l) = res) := by
                  have := HE.out
                  rw [Bool.true_and] at this
                  exact this
                go_wp2_with fail
                trace_state
                go_roundw
                case rel => exact ⟨n + 1, by go_num, HP.out, HT.out, BF2.out⟩
                case measure => have := HP.out; simp [intOf]; omega
            · have hq : n = len k := by omega
              have HT : Hid (true = res) := by
                have := HSN.out
                rw [hq, drop_len] at this
                have e := drop_len l
                rw [← HL.out] at e
                rw [e] at this
                exact this
              go_wp2_with fail
              go_ret
              exact ⟨by rw [← HT.out]; rfl, BX.out.trans (BN.out.mono BX.out.size)⟩
        · have l0 : ((len k : Int) != (len l : Int)) = true := by rw [bne_iff_ne]; omega
          have l1 : (len k == len l) = false := by rw [beq_eq_false_iff_ne]; exact hl
          have l2 : (len k != len l) = true := by rw [bne, l1]; rfl
          have HF : Hid (false = res) := by rw [← HS.out]; exact (sameAF_lens hl).symm
          clear hl
          go_wp2_with fail
          go_ret
          exact ⟨by rw [← HF.out]; rfl, BX.out⟩
end Go.Proofs.Ytmgclgojmckfhaa.Tre
