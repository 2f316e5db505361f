/-
  The program's own layout: end, and what lies where while step looks on. Conditions: sizes.
-/
import Derived.Test.YtmcdclhfjjplnaaLaySta
import Derived.Test.YtmcdclhfjjplnaaLayNxb
namespace Go.Proofs.Ytmcdclhfjjplnaa.Lay
open Tks Mrk Go.RowKit
set_option linter.unusedSimpArgs false
set_option linter.unusedVariables false

theorem grown_below9 {w w' : World} (r : Option Nat) (h : Below w.heap.size w w') : w.grownBy w' r := ⟨h.os, h.tape, h.output, h.size, fun k hk _ => h.block k hk⟩
theorem grown_set9 {w w1 : World} {b : Nat} (h : w.grownBy w1 (some b)) (k : Nat) (v : Value) : w.grownBy (w1.setCell ⟨b, k, none⟩ v) (some b) := by
  refine ⟨h.os, h.tape, h.output, ?_, fun j hj hr => ?_⟩
  · rw [World.size_setCell]
    exact h.size
  · rw [Below.heap_setCell _ _ _ _ (by intro e; exact hr (by rw [e]))]
    exact h.block j hj hr
theorem grown_set4 {w w1 : World} {b : Nat} (h : w.grownBy w1 (some b)) (x y p q : Value) : w.grownBy (set4 w1 b x y p q) (some b) := grown_set9 (grown_set9 (grown_set9 (grown_set9 h 0 x) 1 y) 2 p) 3 q
theorem grown_drew9 {w w1 : World} {r : Option Nat} (h : w.grownBy w1 r) : w.grownBy w1.drew r := ⟨h.os, h.tape, h.output, h.size, h.block⟩
/-- What a step that calls others leaves behind, where one block more (the result's) is written. -/
theorem Aft.fin {W wr w1 w2 : World} {b z R : Nat} {g : Option Nat} {vt vo : Value} {o o' : List Int} {i' : Nat} {wt' : Int} (h0 : Opn W b z g vo o) (k0 : Kp W wr b none) (h : Aft wr w1 b z g vt vo o i' o' wt') (k2 : w1.grownBy w2 (some R)) (R1 : W.heap.size ≤ R) (R2 : R < wr.heap.size) (hb : b < W.heap.size) : Aft W w2 b z g vt vo o i' o' wt' := by
  obtain ⟨v, l1, a1, o1, p1, f1, k1⟩ := h
  have notR : o' ≠ [] → v.ownBlock ≠ some R := by
    intro hne e
    rcases f1 hne R e with ⟨q1, q2 | q2⟩ | q1
    · have := h0.arg.ownlt q2 R q1
      omega
    · have := (h0.gz R q2).2
      omega
    · omega
  refine ⟨v, (k2.block b (Nat.lt_of_lt_of_le hb (Nat.le_trans k0.size k1.size)) (by simp; omega)).trans l1, ?_, fun q => ?_, p1, fun hne m hm => ?_, ?_⟩
  · refine a1.moved k2.size fun c off q e hn => ?_
    have hne : o' ≠ [] := fun e => hn (by rw [e]; rfl)
    refine k2.block c (a1.ownlt hne c (by rw [e]; rfl)) fun e2 => notR hne ?_
    rw [← e2, e]
    rfl
  · obtain ⟨q1, q2⟩ := o1 (IntOwn.keptK q h0.lo k0)
    refine ⟨World.ownsRow.kept q1 k2 ?_, ?_⟩
    · right
      intro e
      rcases q2 with q2 | ⟨m, q2, q3⟩
      · have := (World.ownsRow.lt q R (by rw [← q2, e])).2
        omega
      · rw [e] at q2
        injection q2 with q2
        omega
    · rcases q2 with q2 | ⟨m, q2, q3⟩
      · exact .inl q2
      · exact .inr ⟨m, q2, Nat.le_trans k0.size q3⟩
  · rcases f1 hne m hm with q | q
    · exact .inl q
    · exact .inr (Nat.le_trans k0.size q)
  · have k01 : Kp W w1 b g := (Kp.of_grown k0.grown).trans k1
    exact ⟨k2.os.trans k01.os, k2.tape.trans k01.tape, k2.output.trans k01.output, Nat.le_trans k01.size k2.size, fun m hm h1 h2 => (k2.block m (Nat.lt_of_lt_of_le hm k01.size) (by simp; omega)).trans (k01.block m hm h1 h2)⟩
section
variable (vt vo : Value) (i : Nat) (o : List Int) (wt : Int) (b z : Nat) (g : Option Nat) (w : World) (hs : Lies w b (stO vt (i : Int) vo wt)) (ho : Opn w b z g vo o) (hf : o.length ≤ 1099511627776) (hnn : ∀ c ∈ o, 0 ≤ c)
include hs ho hf hnn
set_option maxHeartbeats 2000000 in
theorem end_any :
    Calls Try.prog 35 #[.pointer (some ⟨b, 0, none⟩)] w fun e w' => e = .returned (.tuple #[tkV9 (nextR [] i o wt).tok, .int .i64 (nextR [] i o wt).err]) ∧ Aft w w' b z g vt vo o i (nextR [] i o wt).opn wt := by
  have T := Lib.hid (fun W h => top_any vo o W h hf)
  have HB := Lib.hid hs.lt
  have HT0 := Lib.hid (topL_nonneg hnn)
  obtain ⟨a, c, rfl⟩ := ho.arg.len
  have U := Lib.hid (fun W h q => outer_any a c o W h hf q)
  have HO := Lib.hid ho
  have HS := Lib.hid hs
  clear hs ho hf hnn
  have hN0 : nextR [] i o wt = if o = [] then ⟨endT 21, i, o, wt, 0⟩ else if 0 < topL o then ⟨endT 20, i, o.dropLast, wt, 0⟩ else ⟨zeroT, i, o, wt, 90⟩ := by unfold nextR; rfl
  generalize nextR [] i o wt = n at *
  go_enter Try.func35, Try.ntmps35
  go_upto_region 1 with fail
  refine gen_world (fun X => Below w.heap.size w X ∧ Lies X w.heap.size (tkO zeroT) ∧ w.heap.size < X.heap.size) ⟨(Below.refl _ _).alloc (Nat.le_refl _) _, Lies.new w _, by rw [World.size_alloc]; omega⟩ ?_
  rintro X ⟨bX, lX, sX⟩
  have hSX := HS.out.below bX HB.out
  obtain ⟨c0, c1, c2, c3, f0, f1, f2, f3⟩ := hSX.four
  obtain ⟨x0, x1, x2, x3, y0, y1, y2, y3⟩ := tokLies lX
  have KX : Hid (Kp w X b none) := Kp.of_below bX
  have OX := Lib.hid (HO.out.kept (Kp.of_below bX))
  have SX := Lib.hid sX
  have LX := Lib.hid lX
  have HX := Lib.hid hSX
  clear bX lX sX hSX
  generalize hR : w.heap.size = R at *
  have HR := Lib.hid hR
  clear hR
  have n1 : ¬ R = b := by have := HB.out; omega
  have n2 : ¬ b = R := by have := HB.out; omega
  by_cases h1 : o = []
  · rw [if_pos h1] at hN0
    have HN := Lib.hid hN0
    clear hN0
    have l0 : ((o.length : Int) == 0) = true := by rw [h1]; rfl
    go_wp2_with fail
    refine bodyPost_ret (by simp [results, Try.results35, go_sem, x0, x1, x2, x3, n1, n2]; try rfl) rfl ?_
    rw [HN.out]
    exact ⟨rfl, Aft.fin HO.out KX.out (Aft.same OX.out HX.out (Kp.refl _ _ _)) (grown_set4 (grown_below9 _ (Below.refl _ _)) _ _ _ _) (Nat.le_of_eq HR.out) SX.out (by rw [HR.out]; exact HB.out)⟩
  · have l0 : ((o.length : Int) == 0) = false := by
      rw [beq_eq_false_iff_ne]
      intro e
      exact h1 (List.eq_nil_of_length_eq_zero (by omega))
    rw [if_neg h1] at hN0
    by_cases h2 : 0 < topL o
    · rw [if_pos h2] at hN0
      have HN := Lib.hid hN0
      clear hN0
      have l1 : (topL o == 0) = false := by rw [beq_eq_false_iff_ne]; omega
      have H1 := Lib.hid h1
      clear h1 h2
      go_wp2_with (first
        | (go_at_call 28; refine (T.out X OX.out.arg).mono ?_; rintro e w2 ⟨rfl, hw⟩; rw [hw]; clear hw)
        | (go_at_call 29; refine (U.out X OX.out.arg H1.out).mono ?_; rintro e w2 ⟨rfl, hw⟩; rw [hw]; clear hw))
      refine bodyPost_ret (by simp [results, Try.results35, go_sem, x0, x1, x2, x3, n1, n2]; try rfl) rfl ?_
      rw [HN.out]
      exact ⟨rfl, Aft.fin HO.out KX.out (Aft.pop OX.out H1.out (HX.out.set2 _) ((Kp.refl _ _ _).set 2 _)) (grown_set4 (grown_below9 _ (Below.refl _ _)) _ _ _ _) (Nat.le_of_eq HR.out) SX.out (by rw [HR.out]; exact HB.out)⟩
    · rw [if_neg h2] at hN0
      have HN := Lib.hid hN0
      have l1 : (topL o == 0) = true := by rw [beq_iff_eq]; have := HT0.out; omega
      clear hN0 h1 h2
      go_wp2_with (first
        | (go_at_call 28; refine (T.out X OX.out.arg).mono ?_; rintro e w2 ⟨rfl, hw⟩; rw [hw]; clear hw)
        )
      refine bodyPost_ret (by simp [results, Try.results35, go_sem, x0, x1, x2, x3, n1, n2]; try rfl) rfl ?_
      rw [HN.out]
      exact ⟨rfl, Aft.fin HO.out KX.out (Aft.same OX.out HX.out (Kp.refl _ _ _)) (grown_set4 (grown_below9 _ (Below.refl _ _)) _ _ _ _) (Nat.le_of_eq HR.out) SX.out (by rw [HR.out]; exact HB.out)⟩
end
end Go.Proofs.Ytmcdclhfjjplnaa.Lay
