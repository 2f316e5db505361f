/-
  What offsidelaw10's own awake answers: true. No condition.
-/
import Derived.Test.YtmandanmndmnhaaDoorTreSho
import Derived.Test.YtmandanmndmnhaaDoorTreLea
import Derived.Test.YtmandanmndmnhaaDoorTreCnt
import Derived.Test.YtmandanmndmnhaaDoorTreSal
import Derived.Test.YtmandanmndmnhaaDoorTreRea
import Derived.Test.YtmandanmndmnhaaDoorTreRpr
import Derived.Test.YtmandanmndmnhaaDoorTreShq
import Derived.Test.YtmandanmndmnhaaDoorTreLvs
import Derived.Test.YtmandanmndmnhaaDoorTreDep
import Derived.Test.YtmandanmndmnhaaDoorTreEqf
import Derived.Test.YtmandanmndmnhaaDoorTreClo
namespace Go.Proofs.YtmandanmndmnhaaDoor.Tre
open Tks Go.RowKit
set_option linter.unusedSimpArgs false
set_option linter.unusedVariables false

/-- What Read tells of what Show shows. -/
theorem readS_back (h : Hd) (k : Fo) (hr : rightN h (len k) (rightF k) = true) : readS ⟨(nodeT h (showF k)).toArray⟩ = if 16777216 < (nodeT h (showF k)).length then .error 3 else if 1 + deepF k ≤ 1000 then .ok (hd0 h.kind h.form h.text, stripF k) else .error 2 := by
  have e0 : rest (⟨(nodeT h (showF k)).toArray⟩ : ByteArray) 0 = nodeT h (showF k) := by simp [rest]
  have e1 : (⟨(nodeT h (showF k)).toArray⟩ : ByteArray).size = (nodeT h (showF k)).length := by simp [ByteArray.size]
  unfold readS
  rw [e0, e1, back_tree h k hr]
  split
  · rfl
  · by_cases hd : 1 + deepF k ≤ 1000
    · rw [if_pos hd, if_pos hd]
      rfl
    · rw [if_neg hd, if_neg hd]
      rfl
def awk0 : Hd := ⟨1, 1, ⟨#[120]⟩, 0, 0⟩
def awk1 : Hd := ⟨1, 5, ⟨#[43]⟩, 0, 0⟩
def awkH : Hd := ⟨17, 0, ⟨#[]⟩, 0, 0⟩
def awkK : Fo := .cons awk0 .nil (.cons awk1 .nil .nil)
def awkT : List UInt8 := [40, 49, 55, 32, 49, 34, 120, 34, 32, 53, 34, 43, 34, 41]
theorem awk_right : rightN awkH (len awkK) (rightF awkK) = true := by decide +kernel
theorem awk_text : nodeT awkH (showF awkK) = awkT := by decide +kernel
theorem awk_read : readS ⟨#[40, 49, 55, 32, 49, 34, 120, 34, 32, 53, 34, 43, 34, 41]⟩ = .ok (awkH, awkK) := by
  have := readS_back awkH awkK awk_right
  rw [awk_text] at this
  rw [if_neg (by decide +kernel), if_pos (by decide +kernel)] at this
  exact this
theorem awk_arg {W : World} {B : Nat} {ty : TypeId} (h : Lies W B (.cells #[.int .i64 1, .int .i64 1, .string ⟨#[120]⟩, .int .i64 0, .int .i64 0, .slice none 0 0, .int .i64 1, .int .i64 5, .string ⟨#[43]⟩, .int .i64 0, .int .i64 0, .slice none 0 0] ty)) : KArg W (.slice (some ⟨B, 0, none⟩) 2 2) awkK :=
  .inr ⟨B, 0, 2, rfl, by decide +kernel, h.lt, ⟨.slice none 0 0, (Lies.cell h 0).trans rfl, (Lies.cell h 1).trans rfl, (Lies.cell h 2).trans rfl, (Lies.cell h 3).trans rfl, (Lies.cell h 4).trans rfl, (Lies.cell h 5).trans rfl, .inl ⟨rfl, _, _, rfl⟩⟩,
    ⟨.slice none 0 0, (Lies.cell h 6).trans rfl, (Lies.cell h 7).trans rfl, (Lies.cell h 8).trans rfl, (Lies.cell h 9).trans rfl, (Lies.cell h 10).trans rfl, (Lies.cell h 11).trans rfl, .inl ⟨rfl, _, _, rfl⟩⟩, trivial⟩
set_option maxRecDepth 1000000 in
set_option maxHeartbeats 4000000 in
theorem awake_any (w : World) : Calls Tryd.prog 10 #[] w fun e w' => e = .returned (.bool true) ∧ Below w.heap.size w w' := by
  have CS : Hid (∀ v W, NdArg W v awkH awkK → Calls Tryd.prog 20 #[v] W fun e w' => e = .returned (.tuple #[.string ⟨#[40, 49, 55, 32, 49, 34, 120, 34, 32, 53, 34, 43, 34, 41]⟩, .int .i64 0]) ∧ Below W.heap.size W w') := fun v W h => by
    have := Show_any awkH awkK v W h (by rw [awk_text]; decide +kernel)
    rw [awk_text, if_pos awk_right] at this
    exact this
  have CR : Hid (∀ W, Calls Tryd.prog 22 #[.string ⟨#[40, 49, 55, 32, 49, 34, 120, 34, 32, 53, 34, 43, 34, 41]⟩] W fun e w' => ∃ a n c, e = .returned (.tuple #[.agg #[.int .i64 17, .int .i64 0, .string ⟨#[]⟩, .int .i64 0, .int .i64 0, .slice a n c], .int .i64 0]) ∧ KArg w' (.slice a n c) awkK ∧ Below W.heap.size W w') := fun W => by
    refine (Read_any ⟨#[40, 49, 55, 32, 49, 34, 120, 34, 32, 53, 34, 43, 34, 41]⟩ W).mono fun e w' h => ?_
    obtain ⟨h, k, a, n, c, E, he, hk, hb, ht⟩ := h
    unfold Told at ht
    rw [awk_read] at ht
    obtain ⟨rfl, rfl, rfl⟩ := ht
    exact ⟨a, n, c, he, hk.arg, hb⟩
  have CE : Hid (∀ va vb W, NdArg W va awkH awkK → NdArg W vb awkH awkK → Calls Tryd.prog 11 #[va, vb] W fun e w' => e = .returned (.bool true) ∧ Below W.heap.size W w') := fun va vb W ha hb => by
    have := Same_any awkH awkH awkK awkK va vb W ha hb
    rw [sameH_self, sameF_self] at this
    exact this
  have CZ : Hid (∀ v W, NdArg W v awkH awkK → Calls Tryd.prog 13 #[v] W fun e w' => e = .returned (.int .i64 3) ∧ Below W.heap.size W w') := fun v W h => Size_any awkH awkK v W h (by decide +kernel)
  have CD : Hid (∀ v W, NdArg W v awkH awkK → Calls Tryd.prog 15 #[v] W fun e w' => e = .returned (.int .i64 2) ∧ Below W.heap.size W w') := fun v W h => Depth_any awkH awkK v W h (by decide +kernel)
  have CL : Hid (∀ v W, NdArg W v awkH awkK → Calls Tryd.prog 18 #[v] W fun e w' => ∃ a c, e = .returned (.slice a 2 c) ∧ Below W.heap.size W w') := fun v W h => by
    refine (Leaves_any awkH awkK v W h (by decide +kernel)).mono fun e w' h => ?_
    obtain ⟨r, he, ho, hb⟩ := h
    obtain ⟨a, c, e1⟩ := tok_slice ho
    have e1 : r = .slice a 2 c := e1
    subst e1
    exact ⟨a, c, he, hb⟩
  go_enter Tryd.func10, Tryd.ntmps10
  go_upto_region 2 with fail
  refine gen_world (fun X => Below w.heap.size w X ∧ (∃ ty, Lies X w.heap.size (.cells #[.int .i64 1, .int .i64 1, .string ⟨#[120]⟩, .int .i64 0, .int .i64 0, .slice none 0 0, .int .i64 1, .int .i64 5, .string ⟨#[43]⟩, .int .i64 0, .int .i64 0, .slice none 0 0] ty)) ∧ Lies X (w.heap.size + 1) (ndO awkH (.slice (some ⟨w.heap.size, 0, none⟩) 2 2))) ⟨below_two' w _ _, ⟨_, (two_lie w _ _).1⟩, (two_lie w _ _).2⟩ ?_
  rintro X ⟨bX, ⟨ty, kX⟩, lX⟩
  generalize hR2 : w.heap.size + 1 = R2 at *
  have BX := Lib.hid bX
  have LX := Lib.hid lX
  have KX := Lib.hid (awk_arg kX)
  obtain ⟨a0, a1, a2, a3, a4, a5⟩ := lX.node
  clear bX lX kX hR2
  dsimp only [awkH] at a0 a1 a2 a3 a4
  go_upto_region 3 with (first
    | (go_at_call 20; refine (CS.out _ _ ⟨_, rfl, KX.out⟩).mono ?_; rintro e w1 ⟨rfl, b1⟩; have B1 := Lib.hid b1; clear b1))
  go_upto_region 4 with (first
    | (go_at_call 22; refine (CR.out _).mono ?_; rintro e w2 ⟨ra, rn, rc, rfl, k2, b2⟩; have B2 := Lib.hid (afterL B1.out b2); have K2 := Lib.hid k2; clear b2 k2))
  refine gen_world (fun Z => Below X.heap.size X Z ∧ Lies Z w2.heap.size (ndO awkH (.slice ra rn rc)) ∧ KArg Z (.slice ra rn rc) awkK) ⟨afterL B2.out (below_one w2 _), Lies.new w2 _, K2.out.below (below_one w2 _) (Nat.le_refl _)⟩ ?_
  rintro Z ⟨bZ, lZ, kZ⟩
  have lR := LX.out.below bZ LX.out.lt
  have BW := Lib.hid (BX.out.trans (bZ.mono BX.out.size))
  have KR := Lib.hid (KX.out.below bZ (Nat.le_refl _))
  have KZ := Lib.hid kZ
  have KS : Hid (∀ W', Below Z.heap.size Z W' → Lies W' R2 (ndO awkH (.slice (some ⟨w.heap.size, 0, none⟩) 2 2)) ∧ Lies W' w2.heap.size (ndO awkH (.slice ra rn rc)) ∧ KArg W' (.slice (some ⟨w.heap.size, 0, none⟩) 2 2) awkK ∧ KArg W' (.slice ra rn rc) awkK) := fun W' h => ⟨lR.below h lR.lt, lZ.below h lZ.lt, KR.out.below h (Nat.le_refl _), KZ.out.below h (Nat.le_refl _)⟩
  clear a0 a1 a2 a3 a4 a5
  obtain ⟨a0, a1, a2, a3, a4, a5⟩ := lR.node
  obtain ⟨c0, c1, c2, c3, c4, c5⟩ := lZ.node
  clear bZ kZ lR lZ
  dsimp only [awkH] at a0 a1 a2 a3 a4 c0 c1 c2 c3 c4
  generalize hNB : w2.heap.size = NB at *
  go_wp2_with (first
    | (go_at_call 11; refine (CE.out _ _ _ ⟨_, rfl, KR.out⟩ ⟨_, rfl, KZ.out⟩).mono ?_; rintro e w3 ⟨rfl, b3⟩; have B3 := Lib.hid b3; obtain ⟨l3, -, k3, -⟩ := KS.out _ b3; have K3 := Lib.hid k3; clear a0 a1 a2 a3 a4 a5; obtain ⟨a0, a1, a2, a3, a4, a5⟩ := l3.node; dsimp only [awkH] at a0 a1 a2 a3 a4; clear b3 l3 k3)
    | (go_at_call 13; refine (CZ.out _ _ ⟨_, rfl, K3.out⟩).mono ?_; rintro e w4 ⟨rfl, b4⟩; have B4 := Lib.hid (afterL B3.out b4); obtain ⟨l3, -, k3, -⟩ := KS.out _ B4.out; have K4 := Lib.hid k3; clear a0 a1 a2 a3 a4 a5; obtain ⟨a0, a1, a2, a3, a4, a5⟩ := l3.node; dsimp only [awkH] at a0 a1 a2 a3 a4; clear b4 l3 k3)
    | (go_at_call 15; refine (CD.out _ _ ⟨_, rfl, K4.out⟩).mono ?_; rintro e w5 ⟨rfl, b5⟩; have B5 := Lib.hid (afterL B4.out b5); obtain ⟨l3, -, k3, -⟩ := KS.out _ B5.out; have K5 := Lib.hid k3; clear a0 a1 a2 a3 a4 a5; obtain ⟨a0, a1, a2, a3, a4, a5⟩ := l3.node; dsimp only [awkH] at a0 a1 a2 a3 a4; clear b5 l3 k3)
    | (go_at_call 18; refine (CL.out _ _ ⟨_, rfl, K5.out⟩).mono ?_; rintro e w6 ⟨la, lc, rfl, b6⟩; have B6 := Lib.hid (afterL B5.out b6); clear b6))
  go_ret
  exact ⟨by simp, BW.out.trans (B6.out.mono BW.out.size)⟩
end Go.Proofs.YtmandanmndmnhaaDoor.Tre
