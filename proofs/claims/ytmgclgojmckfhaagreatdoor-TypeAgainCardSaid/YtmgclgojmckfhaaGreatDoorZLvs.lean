/-
  The program's own Leaves of trees. Conditions: at most 2^40 leaves.
-/
import Derived.Test.YtmgclgojmckfhaaGreatDoorZTreB
import Derived.Test.YtmgclgojmckfhaaGreatDoorZTreA
import Derived.Deep.QuietTactic
import Derived.BigQuiet
import Derived.Deep.RegionWith
import Derived.Deep.RegionHeld3
import Derived.Deep.Cut
namespace Go.Proofs.YtmgclgojmckfhaaGreatDoor.Tre
open Tks Go.RowKit
set_option linter.unusedSimpArgs false
set_option linter.unusedVariables false

theorem tok_set {w : World} {B : Nat} {v : Value} {l : List Tk} (h : Own w B v l) {p : Addr} (hp : p.block < B) (a : Value) : Own (w.setCell p a) B v l := own_set h hp a
theorem tok_lt {w : World} {B : Nat} {v : Value} {l : List Tk} (h : Own w B v l) {b : Nat} (e : v.ownBlock = some b) : B ≤ b ∧ b < w.heap.size := World.ownsRow.lt h b e
theorem tok_slice {w : World} {B : Nat} {v : Value} {l : List Tk} (h : Own w B v l) : ∃ a c, v = .slice a l.length c := own_len h
theorem own_lies {W w3 : World} {B b : Nat} {v : Value} {l : List Tk} {o : Obj} (hO : Own W B v l) (hg : W.grownBy w3 v.ownBlock) (hL : Lies W b o) (hb : b < B) : Lies w3 b o :=
  (hg.block b hL.lt (fun e => by have := (tok_lt hO e.symm).1; omega)).trans hL
theorem own_keeps {W w3 w : World} {S B : Nat} {v : Value} {l : List Tk} (hk : Keeps S B w W) (hB : B ≤ W.heap.size) (hO : Own W B v l) (hg : W.grownBy w3 v.ownBlock) : Keeps S B w w3 :=
  hk.trans ⟨hg.os, hg.tape, hg.output, hg.size, fun k hk2 _ => hg.block k (by omega) (fun e => by have := (tok_lt hO e.symm).1; omega)⟩
def LeafP (h : Hd) (k : Fo) : Prop := ∀ (v : Value) (w0 w : World) (acc : List Tk) (vt : Value) (S F B : Nat), NdArg w0 v h k → w0.heap.size ≤ S → w0.heap.size ≤ B → ¬ S = F → S < B → F < B → B ≤ w.heap.size → Below w0.heap.size w0 w → One w S vt 23 → One w F (fnV 16 S F) 55 → Own w B vt acc → acc.length + (leavesN h k).length ≤ 1099511627776 →
    Calls Tryz.prog 16 #[v, .pointer (some ⟨S, 0, none⟩), .pointer (some ⟨F, 0, none⟩)] w fun e w' => ∃ vt', e = .returned (.tuple #[]) ∧ One w' S vt' 23 ∧ Own w' B vt' (acc ++ leavesN h k) ∧ Keeps S B w w'
set_option maxRecDepth 1000000 in
set_option maxHeartbeats 4000000 in
theorem leaf_any (h : Hd) (k : Fo) : LeafP h k := by
  refine all_trees (P := LeafP) ?_ h k
  intro h k ih v w0 w acc vt S F B hn hS hB hne hSB hFB hBw hw hone hfn hown hsz
  obtain ⟨vk, rfl, hk⟩ := hn
  obtain ⟨a, c, rfl⟩ := hk.len
  obtain ⟨ta, tc, rfl⟩ := tok_slice hown
  have HK := Lib.hid hk
  have IH := Lib.hid ih
  have HM := Lib.hid hk.max
  have HB := Lib.hid (show w0.heap.size ≤ S ∧ w0.heap.size ≤ B ∧ S < B ∧ F < B ∧ B ≤ w.heap.size from ⟨hS, hB, hSB, hFB, hBw⟩)
  have HSZ := Lib.hid hsz
  have HW := Lib.hid hw
  have ne1 : ¬ F = S := fun e => hne e.symm
  have n1 : ¬ S = w.heap.size := by omega
  have n2 : ¬ w.heap.size = S := by omega
  have T1 := Lib.hid hone
  have T2 := Lib.hid hfn
  have T3 := Lib.hid hown
  obtain ⟨res, hres⟩ : ∃ res, leavesN h k = res := ⟨_, rfl⟩
  have HR := Lib.hid hres
  rw [hres] at HSZ ⊢
  obtain ⟨tot, htot⟩ : ∃ tot, acc ++ res = tot := ⟨_, rfl⟩
  have HTT := Lib.hid htot
  have HTL : Hid (tot.length ≤ 1099511627776) := by
    unfold Hid
    rw [← htot, List.length_append]
    exact HSZ.out
  rw [htot]
  unfold ndV
  clear hk ih hS hB hSB hFB hBw hsz hw hone hfn hown hres htot
  go_enter Tryz.func16, Tryz.ntmps16
  go_upto_region 1 with fail
  refine gen_world (fun X => Below w.heap.size w X ∧ Lies X w.heap.size (ndO h (.slice a (len k) c))) ⟨below_one w _, Lies.new w _⟩ ?_
  rintro X ⟨bX, lX⟩
  have P1 : Hid (One X S (.slice ta acc.length tc) 23) := T1.out.below bX (by have := HB.out; omega)
  have P2 : Hid (One X F (fnV 16 S F) 55) := T2.out.below bX (by have := HB.out; omega)
  have P3 := Lib.hid (T3.out.below bX (Nat.le_refl _))
  have KX := Lib.hid (Keeps.of_below (S := S) bX HB.out.2.2.2.2)
  have SX : Hid (B ≤ X.heap.size) := by have := HB.out; have := bX.size; unfold Hid; omega
  obtain ⟨a0, a1, a2, a3, a4, a5⟩ := lX.node
  clear bX lX T1 T2 T3
  by_cases z0 : h.kind = 1
  · have z1 : (h.kind == 1) = true := beq_iff_eq.2 z0
    have HF : Hid ([tokH h] = res) := by rw [← HR.out]; unfold leavesN; rw [if_pos z0]; rfl
    have c0 := P1.out.c0
    have f0 := P1.out.free0
    clear z0
    go_wp2_with (first
      | (at_builtin; refine append_one _ rfl _ _ rfl B (.slice ta acc.length tc) acc rfl (P3.out.below (below_one X _) (Nat.le_refl _)) ⟨X.heap.size, 0, none⟩ (tokH h) 1 rfl (World.news_of_block (heap_alloc_new X _)) (by have := HSZ.out; have := congrArg List.length HF.out; simp only [List.length_cons, List.length_nil] at this; omega) (by have := SX.out; rw [World.size_alloc]; omega) ?_; intro v3 w3 h3 g3 e3; have O3 := Lib.hid h3; have L3 := Lib.hid (own_lies (P3.out.below (below_one X _) (Nat.le_refl _)) g3 (Lies.alloc P1.out _) HB.out.2.2.1); have K3 := Lib.hid (own_keeps (KX.out.trans (Keeps.of_below (below_one X _) SX.out)) (by have := SX.out; rw [World.size_alloc]; omega) (P3.out.below (below_one X _) (Nat.le_refl _)) g3); clear h3 g3 e3 c0 f0; obtain ⟨a3, c3, rfl⟩ := tok_slice O3.out; have c0 := (show One w3 S _ _ from L3.out).c0; have f0 := (show One w3 S _ _ from L3.out).free0))
    have el : (acc ++ [tokH h]).length = acc.length + 1 := by simp
    refine bodyPost_ret (results_none rfl _ _ _) rfl ?_
    refine ⟨.slice a3 (acc.length + 1) c3, rfl, ?_, ?_, K3.out.set 0 _⟩
    · exact One.set L3.out _
    · rw [← HTT.out, ← HF.out, ← el]
      exact tok_set (p := ⟨S, 0, none⟩) O3.out HB.out.2.2.1 _
  · have z1 : (h.kind == 1) = false := beq_eq_false_iff_ne.2 z0
    have HS : Hid (acc ++ leavesF (dropF 0 k) = acc ++ res) := by rw [← HR.out]; unfold Hid leavesN; rw [if_neg z0, drop_zero]
    have HLL : Hid (leavesF k = res) := by rw [← HR.out]; unfold Hid leavesN; rw [if_neg z0]
    rw [HTT.out] at HS
    clear z0 HR HLL
    go_wp2_with fail
    go_loopw [24] (fun iv wr => ∃ (i : Nat) (l : List Tk) (b : Option Addr) (d : Nat), iv = .int .i64 (i : Int) ∧ i ≤ len k ∧ Hid (l ++ leavesF (dropF i k) = tot) ∧ Hid (One wr S (.slice b l.length d) 23) ∧ Hid (One wr F (fnV 16 S F) 55) ∧ Hid (Own wr B (.slice b l.length d) l) ∧ Hid (Keeps S B w wr) ∧ Hid (B ≤ wr.heap.size)) (fun iv _ => len k - (intOf iv).toNat)
    case atStart => exact ⟨0, acc, ta, tc, rfl, Nat.zero_le _, HS.out, P1.out, P2.out, P3.out, KX.out, SX.out⟩
    case round =>
      obtain ⟨i, l, b, d, rfl, hi, HTi, R1, R2, R3, KR, SR⟩ := hrel
      clear a0 a1 a2 a3 a4 a5 P1 P2 P3 KX SX HS
      have i0 : (0 : Int) ≤ (i : Int) := by omega
      by_cases hp : i < len k
      · obtain ⟨h1, k1, e1⟩ := drop_cons i k hp
        rcases HK.out with ⟨e, _⟩ | ⟨ba, oa, ca, ea, -, la, fa⟩
        · rw [e] at hp
          exact absurd hp (by simp [len])
        simp only [Value.slice.injEq] at ea
        obtain ⟨rfl, -, rfl⟩ := ea
        have BW := Lib.hid (KR.out.below HW.out HB.out.1 HB.out.2.1)
        obtain ⟨v1, p0, p1, p2, p3, p4, p5, pk⟩ := six_in fa la BW.out e1
        obtain ⟨ra, rc, rfl⟩ := pk.len
        have HE : Hid ((l ++ leavesN h1 k1) ++ leavesF (dropF (i + 1) k) = tot) := by
          have := HTi.out
          rw [e1] at this
          unfold Hid
          rw [← this, List.append_assoc]
          rfl
        have hln : l.length + (leavesN h1 k1).length ≤ 1099511627776 := by
          have h2 := congrArg List.length HE.out
          have h3 := HTL.out
          simp only [List.length_append] at h2
          omega
        have C := Lib.hid (fun (W : World) (hW : Below wr.heap.size wr W) => IH.out h1 k1 (mem_drop i k e1) (ndV h1 (.slice ra (len k1) rc)) w0 W l (.slice b l.length d) S F B ⟨_, rfl, pk⟩ HB.out.1 HB.out.2.1 hne HB.out.2.2.1 HB.out.2.2.2.1 (Nat.le_trans SR.out hW.size) (BW.out.trans (hW.mono BW.out.size)) (R1.out.below hW (by have := HB.out; have := SR.out; omega)) (R2.out.below hW (by have := HB.out; have := SR.out; omega)) (R3.out.below hW (Nat.le_refl _)) hln)
        unfold ndV at C
        have i1 : (i : Int) < (len k : Int) := by omega
        obtain ⟨w1, w2⟩ := idx_max i (len k) hp HM.out
        have HP := Lib.hid hp
        clear hp e1 la fa pk hln
        obtain ⟨s1, hs1⟩ : ∃ s1, l ++ leavesN h1 k1 = s1 := ⟨_, rfl⟩
        rw [hs1] at C HE
        clear hs1
        go_upto_region 6 with fail
        refine gen_world (fun Z => Below wr.heap.size wr Z ∧ Lies Z wr.heap.size (ndO h1 (.slice ra (len k1) rc))) ⟨below_one wr _, Lies.new wr _⟩ ?_
        rintro Z ⟨bZ, lZ⟩
        have FZ : Hid (One Z F (fnV 16 S F) 55) := R2.out.below bZ (by have := HB.out; have := SR.out; omega)
        have r1 := FZ.out.c0
        unfold fnV at r1
        have BZ := Lib.hid bZ
        have CZ := Lib.hid (C.out Z bZ)
        have SZ : Hid (B ≤ Z.heap.size) := Nat.le_trans SR.out bZ.size
        obtain ⟨q0, q1, q2, q3, q4, q5⟩ := lZ.node
        clear bZ lZ C p0 p1 p2 p3 p4 p5
        go_wp2_with (first
          | (go_at_call 16; refine CZ.out.mono ?_; rintro e w6 ⟨v6, rfl, o6, t6, k6⟩; have O6 := Lib.hid o6; have T6 := Lib.hid t6; have K6 := Lib.hid k6; clear o6 k6 t6))
        obtain ⟨b6, d6, rfl⟩ := tok_slice T6.out
        go_roundw
        case rel => exact ⟨i + 1, s1, b6, d6, by go_num, HP.out, HE.out, O6.out, (show One w6 F _ _ from K6.out.lies FZ.out HB.out.2.2.2.1 ne1), T6.out, (KR.out.trans (Keeps.of_below BZ.out SR.out)).trans K6.out, Nat.le_trans SZ.out K6.out.size⟩
        case measure => have := HP.out; simp [intOf]; omega
      · have hq : i = len k := by omega
        have HF : Hid (l = tot) := by
          have := HTi.out
          rw [hq, drop_len] at this
          unfold Hid
          rw [← this]
          simp [leavesF]
        go_wp2_with fail
        go_end0
        exact ⟨_, rfl, R1.out, by rw [← HF.out]; exact R3.out, KR.out⟩
set_option maxRecDepth 1000000 in
set_option maxHeartbeats 2000000 in
theorem Leaves_any (h : Hd) (k : Fo) (v : Value) (w : World) (hn : NdArg w v h k) (hs : (leavesN h k).length ≤ 1099511627776) :
    Calls Tryz.prog 8 #[v] w fun e w' => ∃ r, e = .returned r ∧ Own w' w.heap.size r (leavesN h k) ∧ Below w.heap.size w w' := by
  have HN := Lib.hid hn
  obtain ⟨vk, rfl, hk⟩ := hn
  obtain ⟨a, c, rfl⟩ := hk.len
  have HS := Lib.hid hs
  have CC := Lib.hid (fun (W : World) (S F B : Nat) h1 h2 h3 h4 h5 h6 h7 h8 h9 => leaf_any h k _ w W [] (.slice none 0 0) S F B HN.out h1 h2 h3 h4 h5 h6 h7 h8 h9 (Own.nil _ _) (by simp only [List.length_nil, Nat.zero_add]; exact HS.out))
  rw [List.nil_append] at CC
  unfold ndV at CC ⊢
  clear hk hs
  have mk := makeF
  go_enter Tryz.func8, Tryz.ntmps8
  go_upto_region 3 with fail
  refine gen_world (fun X => Lies X w.heap.size (ndO h (.slice a (len k) c)) ∧ One X (w.heap.size + 1) (.slice none 0 0) 23 ∧ One X (w.heap.size + 1 + 1) .nilFunc 55 ∧ Below w.heap.size w X ∧ X.heap.size = w.heap.size + 3) (three_lie w _ _ _) ?_
  rintro X ⟨lX, sX, fX, bX, zX⟩
  generalize hS : w.heap.size + 1 = S at *
  generalize hF : S + 1 = F at *
  have n1 : ¬ S = F := by omega
  have n2 : ¬ F = S := by omega
  have n3 : ¬ w.heap.size = F := by omega
  have c0 := fX.c0
  have f0 := fX.free0
  have HSF : Hid (w.heap.size ≤ S ∧ w.heap.size ≤ F ∧ S < F ∧ F < X.heap.size) := by unfold Hid; omega
  have LX := Lib.hid lX
  have OX := Lib.hid sX
  have FX := Lib.hid fX
  have BX := Lib.hid bX
  clear lX sX fX bX zX hS hF
  go_upto_region 4 with fail
  refine gen_world (fun Y => One Y S (.slice none 0 0) 23 ∧ One Y F (fnV 16 S F) 55 ∧ Lies Y w.heap.size (ndO h (.slice a (len k) c)) ∧ Below w.heap.size w Y ∧ X.heap.size = Y.heap.size) ⟨Lies.other OX.out n1 _, FX.out.set _, Lies.other LX.out n3 _, BX.out.setCell (p := ⟨F, 0, none⟩) HSF.out.2.1 _, by rw [World.size_setCell]⟩ ?_
  rintro Y ⟨sY, fY, lY, bY, zY⟩
  obtain ⟨a0, a1, a2, a3, a4, a5⟩ := lY.node
  have b0 := fY.c0
  unfold fnV at b0
  have CY := Lib.hid (CC.out Y S F (F + 1) HSF.out.1 (by have := HSF.out; omega) n1 (by have := HSF.out; omega) (by omega) (by have := HSF.out; omega) bY sY fY)
  have BY := Lib.hid bY
  clear c0 f0 sY fY lY bY zY LX OX FX BX CC
  go_wp2_with (first
    | (go_at_call 16; refine CY.out.mono ?_; rintro e w6 ⟨v6, rfl, o6, t6, k6⟩; have T6 := Lib.hid t6; have B6 := Lib.hid (k6.below BY.out HSF.out.1 (by have := HSF.out; omega)); have g0 := o6.c0; clear k6 o6 t6))
  go_ret
  exact ⟨_, rfl, Own.less T6.out (by have := HSF.out; omega), B6.out⟩
end Go.Proofs.YtmgclgojmckfhaaGreatDoor.Tre
/-
  The document's own SameAll of trees: places too. No condition.
-/
namespace Go.Proofs.YtmgclgojmckfhaaGreatDoor.Tre
open Tks Go.RowKit
set_option linter.unusedSimpArgs false
set_option linter.unusedVariables false

end Go.Proofs.YtmgclgojmckfhaaGreatDoor.Tre
