/-
  The program's own Show of trees. Conditions: texts of at most 2^46 bytes.
-/
import Derived.Test.YtmandanmndmnhaaDoorTreWrl
namespace Go.Proofs.YtmandanmndmnhaaDoor.Tre
open Tks Go.RowKit
open Qt (Bld)
set_option linter.unusedSimpArgs false
set_option linter.unusedVariables false

def ShowP (h : Hd) (k : Fo) : Prop := ∀ (v : Value) (w0 w : World) (bs : List UInt8) (S F B : Nat), NdArg w0 v h k → w0.heap.size ≤ B → ¬ S = F → S < w.heap.size → F < w.heap.size → B ≤ w.heap.size → Below w0.heap.size w0 w → Bld B S bs w → One w F (fnV 30 S F) 31 → bs.length + (nodeT h (showF k)).length ≤ 70368744177664 →
    Calls Tryd.prog 30 #[v, .pointer (some ⟨S, 0, none⟩), .pointer (some ⟨F, 0, none⟩)] w fun e w' => ∃ ok, e = .returned (.bool ok) ∧ ok = rightN h (len k) (rightF k) ∧ (ok = true → Bld B S (bs ++ nodeT h (showF k)) w') ∧ Wrote B S w w'
theorem right_drop : ∀ (i : Nat) (f : Fo) {h : Hd} {k : Fo}, dropF i f = .cons h k (dropF (i + 1) f) → rightF (dropF i f) = (rightN h (len k) (rightF k) && rightF (dropF (i + 1) f)) := by
  intro i f h k e
  rw [e]
  rfl
set_option maxRecDepth 1000000 in
set_option maxHeartbeats 8000000 in
theorem show_any (h : Hd) (k : Fo) : ShowP h k := by
  refine all_trees (P := ShowP) ?_ h k
  intro h k ih v w0 w bs S F B hn hB0 hne hS hF hB hw hb hfn hlen
  obtain ⟨vk, rfl, hk⟩ := hn
  have CV := Lib.hid (fun (W : World) (hW : Below w0.heap.size w0 W) => valid_any h k (ndV h vk) W ⟨vk, rfl, hk.below hW (Nat.le_refl _)⟩)
  obtain ⟨a, c, rfl⟩ := hk.len
  have HK := Lib.hid hk
  have IH := Lib.hid ih
  have HM := Lib.hid hk.max
  have HS := Lib.hid (show w0.heap.size ≤ B ∧ S < w.heap.size ∧ F < w.heap.size ∧ B ≤ w.heap.size from ⟨hB0, hS, hF, hB⟩)
  have HW := Lib.hid hw
  have HD := Lib.hid hb
  have HFN := Lib.hid hfn
  have n1 : ¬ w.heap.size = S := by omega
  have n2 : ¬ F = S := fun e => hne e.symm
  have n3 : ¬ w.heap.size = F := by omega
  obtain ⟨res, hres⟩ : ∃ res, rightN h (len k) (rightF k) = res := ⟨_, rfl⟩
  have HR := Lib.hid hres
  obtain ⟨tgt, htg⟩ : ∃ tgt, bs ++ nodeT h (showF k) = tgt := ⟨_, rfl⟩
  have HTG := Lib.hid htg
  have HTL : Hid (tgt.length ≤ 70368744177664) := by
    unfold Hid
    rw [← htg, List.length_append]
    exact hlen
  rw [hres, htg]
  have CL := Lib.hid (fun (fn : Nat) hfn hfl W hb hB hS hlen => wleaf_any h a (len k) c fn hfn hfl W B S bs hb hB hS hlen)
  have CH := Lib.hid (fun (kn : Nat) hkn hkl W hb hB hS hlen => whead_any h a (len k) c kn hkn hkl W B S bs hb hB hS hlen)
  unfold ndV at CV CL CH ⊢
  clear hk ih hB0 hS hF hB hw hb hfn hlen hres htg
  go_enter Tryd.func30, Tryd.ntmps30
  go_upto_region 1 with fail
  refine gen_world (fun X => Below w.heap.size w X ∧ Lies X w.heap.size (ndO h (.slice a (len k) c))) ⟨below_one w _, Lies.new w _⟩ ?_
  rintro X ⟨bX, lX⟩
  have BX := Lib.hid bX
  have LX := Lib.hid lX
  obtain ⟨a0, a1, a2, a3, a4, a5⟩ := lX.node
  have CVX := Lib.hid (CV.out X (HW.out.trans (bX.mono HW.out.size)))
  clear bX lX CV
  cases hv : validH h (len k) with
  | false =>
    rw [hv] at CVX
    have HF : Hid (false = res) := by
      rw [← HR.out, right_valid, hv]
      rfl
    clear hv
    go_wp2_with (first
      | (go_at_call 31; refine CVX.out.mono ?_; rintro e w2 ⟨rfl, b2⟩; have B2 := Lib.hid (afterL BX.out b2); clear b2))
    go_ret
    exact ⟨false, rfl, HF.out, (fun e => by cases e), Wrote.of_below B2.out (Nat.le_refl _) HS.out.2.2.2⟩
  | true =>
    rw [hv] at CVX
    have HV := Lib.hid hv
    clear hv
    go_upto_region 3 with (first
      | (go_at_call 31; refine CVX.out.mono ?_; rintro e w2 ⟨rfl, b2⟩; have B2 := Lib.hid (afterL BX.out b2); have L2 := Lib.hid (LX.out.below b2 LX.out.lt); clear b2))
    clear a0 a1 a2 a3 a4 a5 CVX LX BX
    obtain ⟨a0, a1, a2, a3, a4, a5⟩ := L2.out.node
    have D2 := Lib.hid (bld_below HD.out B2.out (Nat.le_refl _))
    have W2 : Hid (Wrote B S w w2) := Wrote.of_below B2.out (Nat.le_refl _) HS.out.2.2.2
    have F2 : Hid (One w2 F (fnV 30 S F) 31) := HFN.out.below B2.out HS.out.2.2.1
    have SZ2 : Hid (B ≤ w2.heap.size ∧ S < w2.heap.size ∧ F < w2.heap.size) := by
      have := HS.out
      have := B2.out.size
      unfold Hid
      omega
    by_cases z0 : h.kind = 1
    · have z1 : (h.kind == 1) = true := beq_iff_eq.2 z0
      have hv := HV.out
      unfold validH at hv
      rw [if_pos z0] at hv
      simp only [Bool.and_eq_true, decide_eq_true_eq] at hv
      obtain ⟨f0, f1, -⟩ := hv
      obtain ⟨fn, hfn⟩ : ∃ fn : Nat, h.form = fn := ⟨h.form.toNat, by omega⟩
      have hft : h.form.toNat = fn := by omega
      have HF : Hid (bs ++ (digL fn ++ (byte 34 :: (escL h.text.data.toList ++ [byte 34]))) = tgt) := by
        rw [← HTG.out]
        unfold Hid nodeT
        rw [if_pos z0, hft]
      have HRT : Hid (true = res) := by
        rw [← HR.out, right_valid, HV.out, decide_eq_true z0]
        rfl
      have CL2 := Lib.hid (CL.out fn hfn (by omega) w2 D2.out SZ2.out.1 SZ2.out.2.1 (by have h2 := congrArg List.length HF.out; rw [List.length_append] at h2; have := HTL.out; omega))
      rw [HF.out] at CL2
      clear z0 f0 f1 hfn hft HF HR HTG CL CH
      go_wp2_with (first
        | (go_at_call 32; refine CL2.out.mono ?_; rintro e w3 ⟨rfl, d3, k3⟩; have D3 := Lib.hid d3; have W3 := Lib.hid (W2.out.trans k3); clear d3 k3))
      go_ret
      exact ⟨true, rfl, HRT.out, fun _ => D3.out, W3.out⟩
    · have z1 : (h.kind == 1) = false := beq_eq_false_iff_ne.2 z0
      have hv := HV.out
      unfold validH at hv
      rw [if_neg z0] at hv
      simp only [Bool.and_eq_true, decide_eq_true_eq] at hv
      obtain ⟨f0, f1, -⟩ := hv
      obtain ⟨kn, hkn⟩ : ∃ kn : Nat, h.kind = kn := ⟨h.kind.toNat, by omega⟩
      have hkt : h.kind.toNat = kn := by omega
      have HF : Hid ((bs ++ (byte 40 :: (digL kn ++ (if h.form = 1 then [byte 33] else [])))) ++ (showF (dropF 0 k) ++ [byte 41]) = tgt) := by
        rw [← HTG.out, drop_zero]
        unfold Hid nodeT
        rw [if_neg z0, hkt]
        simp
      have HRT : Hid (rightF k = res) := by
        rw [← HR.out, right_valid, HV.out, decide_eq_false z0]
        rfl
      have CH2 := Lib.hid (CH.out kn hkn (by omega) w2 D2.out SZ2.out.1 SZ2.out.2.1 (by have h2 := congrArg List.length HF.out; rw [List.length_append, List.length_append] at h2; have := HTL.out; omega))
      generalize (bs ++ (byte 40 :: (digL kn ++ (if h.form = 1 then [byte 33] else [])))) = acc0 at CH2 HF
      clear z0 f0 f1 hkn hkt HR HTG CL CH
      go_upto_region 7 with (first
        | (go_at_call 33; refine CH2.out.mono ?_; rintro e w3 ⟨rfl, d3, k3⟩; have D3 := Lib.hid d3; have W3 := Lib.hid (W2.out.trans k3); have L3 := Lib.hid (k3.node L2.out n1); have F3 := Lib.hid (k3.one F2.out n2 (by decide)); clear d3 k3))
      clear a0 a1 a2 a3 a4 a5 CH2 D2 W2 L2 F2 B2
      obtain ⟨a0, a1, a2, a3, a4, a5⟩ := L3.out.node
      have SZ3 : Hid (B ≤ w3.heap.size ∧ S < w3.heap.size ∧ F < w3.heap.size) := by
        have := HS.out
        have := W3.out.size
        unfold Hid
        omega
      go_wp2_with fail
      go_loopw [20] (fun iv wr => ∃ (i : Nat) (acc : List UInt8), iv = .int .i64 (i : Int) ∧ i ≤ len k ∧ Hid (acc ++ (showF (dropF i k) ++ [byte 41]) = tgt) ∧ Hid (rightF (dropF i k) = res) ∧ Hid (Bld B S acc wr) ∧ Hid (Wrote B S w wr) ∧ Hid (One wr F (fnV 30 S F) 31)) (fun iv _ => len k - (intOf iv).toNat)
      case atStart => exact ⟨0, acc0, rfl, Nat.zero_le _, HF.out, by unfold Hid; rw [drop_zero]; exact HRT.out, D3.out, W3.out, F3.out⟩
      case round =>
        obtain ⟨i, acc, rfl, hi, HTi, HRi, DI, WI, FI⟩ := hrel
        clear a0 a1 a2 a3 a4 a5 HF D3 W3 L3 F3 SZ3 SZ2 HRT
        have i0 : (0 : Int) ≤ (i : Int) := by omega
        have SI : Hid (B ≤ wr.heap.size ∧ S < wr.heap.size ∧ F < wr.heap.size) := by
          have := HS.out
          have := WI.out.size
          unfold Hid
          omega
        by_cases hp : i < len k
        · obtain ⟨h1, k1, e1⟩ := drop_cons i k hp
          have HRN : Hid ((rightN h1 (len k1) (rightF k1) && rightF (dropF (i + 1) k)) = res) := by
            rw [← HRi.out]
            exact (right_drop i k e1).symm
          rcases HK.out with ⟨e, _⟩ | ⟨ba, oa, ca, ea, -, la, fa⟩
          · rw [e] at hp
            exact absurd hp (by simp [len])
          simp only [Value.slice.injEq] at ea
          obtain ⟨rfl, -, rfl⟩ := ea
          have BW := Lib.hid (HW.out.trans (WI.out.bel.mono HS.out.1))
          obtain ⟨v1, p0, p1, p2, p3, p4, p5, pk⟩ := six_in fa la BW.out e1
          obtain ⟨ra, rc, rfl⟩ := pk.len
          have HE : Hid (((acc ++ [byte 32]) ++ nodeT h1 (showF k1)) ++ (showF (dropF (i + 1) k) ++ [byte 41]) = tgt) := by
            have := HTi.out
            rw [e1] at this
            unfold Hid
            rw [← this]
            simp [showF]
          have hal : (acc ++ [byte 32]).length + (nodeT h1 (showF k1)).length ≤ 70368744177664 := by
            have h2 := congrArg List.length HE.out
            have h3 := HTL.out
            simp only [List.length_append] at h2 ⊢
            omega
          have C := Lib.hid (fun (W : World) hw1 hw2 hw3 hw4 hw5 hw6 => IH.out h1 k1 (mem_drop i k e1) (ndV h1 (.slice ra (len k1) rc)) w0 W (acc ++ [byte 32]) S F B ⟨_, rfl, pk⟩ HS.out.1 hne hw1 hw2 hw3 hw4 hw5 hw6 hal)
          unfold ndV at C
          have HAL := Lib.hid hal
          have i1 : (i : Int) < (len k : Int) := by omega
          obtain ⟨w1, w2'⟩ := idx_max i (len k) hp HM.out
          have HP := Lib.hid hp
          clear hp e1 la fa pk hal
          obtain ⟨ok, hok⟩ : ∃ ok, rightN h1 (len k1) (rightF k1) = ok := ⟨_, rfl⟩
          rw [hok] at C HRN
          clear hok
          go_upto_region 10 with fail
          refine gen_world (fun Z => Below wr.heap.size wr Z ∧ Lies Z wr.heap.size (ndO h1 (.slice ra (len k1) rc))) ⟨below_one wr _, Lies.new wr _⟩ ?_
          rintro Z ⟨bZ, lZ⟩
          have DZ := Lib.hid (bld_below DI.out bZ (Nat.le_refl _))
          have WZ : Hid (Wrote B S w Z) := WI.out.trans (Wrote.of_below bZ (Nat.le_refl _) SI.out.1)
          have FZ : Hid (One Z F (fnV 30 S F) 31) := FI.out.below bZ SI.out.2.2
          have LZ := Lib.hid lZ
          have SZ : Hid (B ≤ Z.heap.size) := Nat.le_trans SI.out.1 bZ.size
          have n4 : ¬ wr.heap.size = S := by have := SI.out; omega
          clear bZ lZ p0 p1 p2 p3 p4 p5
          go_upto_region 11 with (first
            | (go_at_call 34; refine (wbyteZ 32 32 rfl (by omega) B S acc Z DZ.out (by have := HAL.out; simp only [List.length_append, List.length_cons, List.length_nil] at this; omega) SZ.out).mono ?_; rintro e w5 ⟨rfl, d5, k5⟩; have D5 := Lib.hid d5; have W5 := Lib.hid (WZ.out.trans k5); have L5 := Lib.hid (k5.node LZ.out n4); have F5 := Lib.hid (k5.one FZ.out n2 (by decide)); clear d5 k5))
          have C5 := Lib.hid (C.out w5 (by have := HS.out; have := W5.out.size; omega) (by have := HS.out; have := W5.out.size; omega) (Nat.le_trans HS.out.2.2.2 W5.out.size) (HW.out.trans (W5.out.bel.mono HS.out.1)) D5.out F5.out)
          obtain ⟨q0, q1, q2, q3, q4, q5⟩ := L5.out.node
          have r1 := F5.out.c0
          unfold fnV at r1
          clear C
          cases ok with
          | false =>
            have HF : Hid (false = res) := HRN.out
            go_wp2_with (first
              | (go_at_call 30; refine C5.out.mono ?_; rintro e w6 ⟨ok6, rfl, rfl, -, k6⟩; have W6 := Lib.hid (W5.out.trans k6); clear k6))
            go_ret
            exact ⟨false, rfl, HF.out, (fun e => by cases e), W6.out⟩
          | true =>
            have HT : Hid (rightF (dropF (i + 1) k) = res) := by
              have := HRN.out
              rw [Bool.true_and] at this
              exact this
            go_wp2_with (first
              | (go_at_call 30; refine C5.out.mono ?_; rintro e w6 ⟨ok6, rfl, rfl, d6, k6⟩; have D6 := Lib.hid (d6 rfl); have W6 := Lib.hid (W5.out.trans k6); have F6 := Lib.hid (k6.one F5.out n2 (by decide)); clear k6 d6))
            go_roundw
            case rel => exact ⟨i + 1, (acc ++ [byte 32]) ++ nodeT h1 (showF k1), by go_num, HP.out, HE.out, HT.out, D6.out, W6.out, F6.out⟩
            case measure => have := HP.out; simp [intOf]; omega
        · have hq : i = len k := by omega
          have HG : Hid (acc ++ [byte 41] = tgt) := by
            have := HTi.out
            rw [hq, drop_len] at this
            exact this
          have HT : Hid (true = res) := by
            have := HRi.out
            rw [hq, drop_len] at this
            exact this
          go_wp2_with (first
            | (go_at_call 34; refine (wbyteZ 41 41 rfl (by omega) B S acc wr DI.out (by have h2 := congrArg List.length HG.out; have := HTL.out; simp only [List.length_append, List.length_cons, List.length_nil] at h2; omega) SI.out.1).mono ?_; rintro e w6 ⟨rfl, d6, k6⟩; have D6 := Lib.hid d6; have W6 := Lib.hid (WI.out.trans k6); clear d6 k6))
          go_ret
          exact ⟨true, rfl, HT.out, fun _ => by rw [← HG.out]; exact D6.out, W6.out⟩
end Go.Proofs.YtmandanmndmnhaaDoor.Tre
