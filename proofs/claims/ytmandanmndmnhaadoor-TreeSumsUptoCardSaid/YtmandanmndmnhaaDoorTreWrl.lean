/-
  What the program writes of a leaf, and ahead of kids. Conditions: texts of at most 2^46 bytes.
-/
import Derived.Test.YtmandanmndmnhaaDoorTreWrt
namespace Go.Proofs.YtmandanmndmnhaaDoor.Tre
open Tks Go.RowKit
open Qt (Bld)
set_option linter.unusedSimpArgs false
set_option linter.unusedVariables false

theorem wbyteZ (z : Int) (n : Nat) (hz : z = (n : Int)) (hn : n < 256) (B b : Nat) (bs : List UInt8) (w : World) (h : Bld B b bs w) (hlen : bs.length + 1 ≤ 140737488355328) (hBw : B ≤ w.heap.size) :
    Calls Tryd.prog 34 #[.pointer (some ⟨b, 0, none⟩), .int .u8 z] w fun e w' => e = .returned .nilIface ∧ Bld B b (bs ++ [byte n]) w' ∧ Wrote B b w w' := by
  have := wbyteK B b bs (byte n) w h hlen hBw
  rw [byte_nat n hn] at this
  rw [hz]
  exact this
theorem bld_below {B b C : Nat} {bs : List UInt8} {w w' : World} (h : Bld B b bs w) (hb : Below C w w') (hC : w.heap.size ≤ C) : Bld B b bs w' := Qt.builder_below h (hb.mono hC)
theorem esc_cons (c : UInt8) (t : List UInt8) : escL (c :: t) = escB c ++ escL t := by
  unfold escL
  rw [List.flatMap_cons]
set_option maxRecDepth 1000000 in
set_option maxHeartbeats 8000000 in
theorem wleaf_any (h : Hd) (a : Option Addr) (n c : Nat) (fn : Nat) (hfn : h.form = fn) (hfl : fn < 100) (w : World) (B S : Nat) (bs : List UInt8) (hb : Bld B S bs w) (hB : B ≤ w.heap.size) (hS : S < w.heap.size) (hlen : bs.length + (digL fn ++ (byte 34 :: (escL h.text.data.toList ++ [byte 34]))).length ≤ 70368744177664) :
    Calls Tryd.prog 32 #[.pointer (some ⟨S, 0, none⟩), ndV h (.slice a n c)] w fun e w' => e = .returned (.tuple #[]) ∧ Bld B S (bs ++ (digL fn ++ (byte 34 :: (escL h.text.data.toList ++ [byte 34])))) w' ∧ Wrote B S w w' := by
  have hts : h.text.data.toList.length = h.text.size := by rw [Array.length_toList]; rfl
  have hge := escL_ge h.text.data.toList
  have HTS : Hid (h.text.size ≤ 70368744177664) := by
    unfold Hid
    simp only [List.length_append, List.length_cons, List.length_nil] at hlen
    omega
  obtain ⟨D, hD⟩ : ∃ D, digL fn = D := ⟨_, rfl⟩
  have CI := Lib.hid (fun W => itoaK fn hfl W)
  rw [hD] at CI hlen ⊢
  obtain ⟨tgt, htg⟩ : ∃ tgt, bs ++ (D ++ (byte 34 :: (escL h.text.data.toList ++ [byte 34]))) = tgt := ⟨_, rfl⟩
  have HTL : Hid (tgt.length ≤ 70368744177664) := by
    unfold Hid
    rw [← htg, List.length_append]
    exact hlen
  have HT : Hid (((bs ++ D) ++ [byte 34]) ++ (escL (rest h.text 0) ++ [byte 34]) = tgt) := by
    unfold Hid
    rw [← htg, rest_zero]
    simp
  have HDL : Hid (bs.length + D.length + 1 ≤ 70368744177664) := by
    unfold Hid
    simp only [List.length_append, List.length_cons, List.length_nil] at hlen
    omega
  rw [htg]
  rw [← hfn] at CI
  have HB := Lib.hid hb
  have HBW := Lib.hid hB
  have HSW := Lib.hid hS
  have n1 : ¬ w.heap.size = S := by omega
  unfold ndV
  clear hts hge htg hD hlen hb hB hS hfn hfl
  go_enter Tryd.func32, Tryd.ntmps32
  go_upto_region 1 with fail
  refine gen_world (fun X => Below w.heap.size w X ∧ Lies X w.heap.size (ndO h (.slice a n c))) ⟨below_one w _, Lies.new w _⟩ ?_
  rintro X ⟨bX, lX⟩
  have BX := Lib.hid bX
  have LX := Lib.hid lX
  have DX := Lib.hid (bld_below HB.out bX (Nat.le_refl _))
  have SX : Hid (B ≤ X.heap.size) := Nat.le_trans HBW.out bX.size
  have WX : Hid (Wrote B S w X) := Wrote.of_below bX (Nat.le_refl _) HBW.out
  obtain ⟨a0, a1, a2, a3, a4, a5⟩ := lX.node
  clear bX lX HB BX
  go_upto_region 2 with (first
    | (go_at_call 44; refine (CI.out _).mono ?_; rintro e w2 ⟨rfl, hw⟩; rw [hw]; clear hw)
    | (go_at_call 43; refine (wstrK B S bs ⟨D.toArray⟩ X DX.out (by have := HDL.out; show bs.length + D.toArray.size ≤ _; rw [List.size_toArray]; omega) SX.out).mono ?_; rintro e w2 ⟨rfl, d2, k2⟩; have D2 : Hid (Bld B S (bs ++ D) w2) := d2; have W2 := Lib.hid (WX.out.trans k2); have L2 := Lib.hid (k2.node LX.out n1); clear d2 k2))
  have SX2 : Hid (B ≤ w2.heap.size) := Nat.le_trans HBW.out W2.out.size
  go_upto_region 3 with (first
    | (go_at_call 34; refine (wbyteZ 34 34 rfl (by omega) B S (bs ++ D) w2 D2.out (by have := HDL.out; rw [List.length_append]; omega) SX2.out).mono ?_; rintro e w3 ⟨rfl, d3, k3⟩; have D3 := Lib.hid d3; have W3 := Lib.hid (W2.out.trans k3); have L3 := Lib.hid (k3.node L2.out n1); clear d3 k3))
  clear a0 a1 a2 a3 a4 a5 WX LX DX SX SX2 D2 W2 L2 HDL CI
  obtain ⟨a0, a1, a2, a3, a4, a5⟩ := L3.out.node
  generalize ((bs ++ D) ++ [byte 34]) = acc0 at *
  go_wp2_with fail
  go_loopw [16] (fun iv wr => ∃ (i : Nat) (acc : List UInt8), iv = .int .i64 (i : Int) ∧ i ≤ h.text.size ∧ Hid (acc ++ (escL (rest h.text i) ++ [byte 34]) = tgt) ∧ Hid (Bld B S acc wr) ∧ Hid (Wrote B S w wr) ∧ Hid (Lies wr w.heap.size (ndO h (.slice a n c)))) (fun iv _ => h.text.size - (intOf iv).toNat)
  case atStart => exact ⟨0, acc0, rfl, Nat.zero_le _, HT.out, D3.out, W3.out, L3.out⟩
  case round =>
    obtain ⟨i, acc, rfl, hi, HTi, DI, WI, LI⟩ := hrel
    clear a0 a1 a2 a3 a4 a5 HT D3 W3 L3
    obtain ⟨a0, a1, a2, a3, a4, a5⟩ := LI.out.node
    have SI : Hid (B ≤ wr.heap.size) := Nat.le_trans HBW.out WI.out.size
    have i0 : (0 : Int) ≤ (i : Int) := by omega
    by_cases hp : i < h.text.size
    · have d1 : decide ((i : Int) < (h.text.size : Int)) = true := decide_eq_true (by omega)
      have d1n : decide (i < h.text.size) = true := decide_eq_true hp
      have i1 : (i : Int) < (h.text.size : Int) := by omega
      obtain ⟨ch, hch⟩ : ∃ ch, h.text[i] = ch := ⟨_, rfl⟩
      have HE : Hid ((acc ++ escB ch) ++ (escL (rest h.text (i + 1)) ++ [byte 34]) = tgt) := by
        have := HTi.out
        rw [rest_cons h.text i hp, hch, esc_cons] at this
        unfold Hid
        rw [← this]
        simp
      have HAL : Hid (acc.length + (escB ch).length ≤ 70368744177664) := by
        have h2 := congrArg List.length HE.out
        have h3 := HTL.out
        simp only [List.length_append] at h2
        unfold Hid
        omega
      have CP := Lib.hid (fun W => plain_any ch W)
      have HP := Lib.hid hp
      have w1 : wrap64 ((i : Int) + 1) = (i : Int) + 1 := IntWalk.wrap64_in _ ⟨by omega, by have := HTS.out; omega⟩
      have w2 : IntKind.i64.wrap ((i : Int) + 1) = (i : Int) + 1 := by rw [IntWalk.i64_left]; exact w1
      cases hpl : plainB ch with
      | true =>
        have e : escB ch = [ch] := by unfold escB; rw [if_pos hpl]
        rw [e] at HE HAL
        rw [hpl] at CP
        clear e hpl
        go_wp2_with (first
          | (go_at_call 45; refine (CP.out _).mono ?_; rintro e w5 ⟨rfl, hw⟩; rw [hw]; clear hw)
          | (go_at_call 34; refine (wbyteK B S acc ch wr DI.out (by have := HAL.out; simp only [List.length_cons, List.length_nil] at this; omega) SI.out).mono ?_; rintro e w6 ⟨rfl, d6, k6⟩; have D6 := Lib.hid d6; have W6 := Lib.hid (WI.out.trans k6); have L6 := Lib.hid (k6.node LI.out n1); clear d6 k6))
        go_roundw
        case rel => exact ⟨i + 1, acc ++ [ch], by go_num, HP.out, HE.out, D6.out, W6.out, L6.out⟩
        case measure => have := HP.out; simp [intOf]; omega
      | false =>
        have e : escB ch = [byte 92, hexD (ch.toNat / 16), hexD (ch.toNat % 16)] := by unfold escB; rw [if_neg (by rw [hpl]; decide)]
        rw [e] at HE HAL
        rw [hpl] at CP
        have hc256 := nat_lt ch
        obtain ⟨hi, ehi⟩ : ∃ hi, hi = ch.toNat / 16 := ⟨_, rfl⟩
        rw [← ehi] at HE HAL
        have h1 : (ch.toNat : Int) / 16 = (hi : Int) := by omega
        have j0 : (0 : Int) ≤ (hi : Int) := by omega
        have j1 : (hi : Int) < 16 := by omega
        clear e hpl hc256 ehi
        go_upto_region 10 with (first
          | (go_at_call 45; refine (CP.out _).mono ?_; rintro e w5 ⟨rfl, hw⟩; rw [hw]; clear hw)
          | (go_at_call 34; refine (wbyteZ 92 92 rfl (by omega) B S acc wr DI.out (by have := HAL.out; simp only [List.length_cons, List.length_nil] at this; omega) SI.out).mono ?_; rintro e w6 ⟨rfl, d6, k6⟩; have D6 := Lib.hid d6; have W6 := Lib.hid (WI.out.trans k6); have L6 := Lib.hid (k6.node LI.out n1); clear d6 k6))
        have LL : Hid (acc.length + 3 ≤ 70368744177664) := HAL.out
        have SI6 : Hid (B ≤ w6.heap.size) := Nat.le_trans HBW.out W6.out.size
        go_upto_region 11 with (first
          | (go_at_call 34; rw [hex_get]; refine (wbyteK B S (acc ++ [byte 92]) (hexD hi) w6 D6.out (by have := LL.out; rw [List.length_append, List.length_singleton]; omega) SI6.out).mono ?_; rintro e w7 ⟨rfl, d7, k7⟩; have D7 := Lib.hid d7; have W7 := Lib.hid (W6.out.trans k7); have L7 := Lib.hid (k7.node L6.out n1); clear d7 k7))
        have SI7 : Hid (B ≤ w7.heap.size) := Nat.le_trans HBW.out W7.out.size
        go_wp2_with (first
          | (go_at_call 34; rw [hex_get]; refine (wbyteK B S ((acc ++ [byte 92]) ++ [hexD hi]) (hexD (ch.toNat % 16)) w7 D7.out (by have := LL.out; rw [List.length_append, List.length_append, List.length_singleton, List.length_singleton]; omega) SI7.out).mono ?_; rintro e w8 ⟨rfl, d8, k8⟩; have D8 := Lib.hid d8; have W8 := Lib.hid (W7.out.trans k8); have L8 := Lib.hid (k8.node L7.out n1); clear d8 k8))
        go_roundw
        case rel => exact ⟨i + 1, ((acc ++ [byte 92]) ++ [hexD hi]) ++ [hexD (ch.toNat % 16)], by go_num, HP.out, by have := HE.out; unfold Hid; rw [← this]; simp, D8.out, W8.out, L8.out⟩
        case measure => have := HP.out; simp [intOf]; omega
    · have hq : i = h.text.size := by omega
      have d1 : decide ((i : Int) < (h.text.size : Int)) = false := decide_eq_false (by omega)
      have d1n : decide (i < h.text.size) = false := decide_eq_false hp
      have HF : Hid (acc ++ [byte 34] = tgt) := by
        have := HTi.out
        rw [rest_nil h.text i (by omega)] at this
        exact this
      go_wp2_with (first
        | (go_at_call 34; refine (wbyteZ 34 34 rfl (by omega) B S acc wr DI.out (by have h2 := congrArg List.length HF.out; have := HTL.out; simp only [List.length_append, List.length_cons, List.length_nil] at h2; omega) SI.out).mono ?_; rintro e w6 ⟨rfl, d6, k6⟩; have D6 := Lib.hid d6; have W6 := Lib.hid (WI.out.trans k6); clear d6 k6))
      go_end0
      exact ⟨rfl, by rw [← HF.out]; exact D6.out, W6.out⟩
set_option maxRecDepth 1000000 in
set_option maxHeartbeats 4000000 in
theorem whead_any (h : Hd) (a : Option Addr) (n c : Nat) (kn : Nat) (hkn : h.kind = kn) (hkl : kn < 100) (w : World) (B S : Nat) (bs : List UInt8) (hb : Bld B S bs w) (hB : B ≤ w.heap.size) (hS : S < w.heap.size) (hlen : bs.length + (byte 40 :: (digL kn ++ (if h.form = 1 then [byte 33] else []))).length ≤ 70368744177664) :
    Calls Tryd.prog 33 #[.pointer (some ⟨S, 0, none⟩), ndV h (.slice a n c)] w fun e w' => e = .returned (.tuple #[]) ∧ Bld B S (bs ++ (byte 40 :: (digL kn ++ (if h.form = 1 then [byte 33] else [])))) w' ∧ Wrote B S w w' := by
  obtain ⟨D, hD⟩ : ∃ D, digL kn = D := ⟨_, rfl⟩
  have CI := Lib.hid (fun W => itoaK kn hkl W)
  rw [hD] at CI hlen ⊢
  have HDL : Hid (bs.length + 1 + D.length + 1 ≤ 70368744177665) := by
    unfold Hid
    simp only [List.length_append, List.length_cons, List.length_nil] at hlen
    omega
  obtain ⟨M, hM⟩ : ∃ M : List UInt8, (if h.form = 1 then [byte 33] else []) = M := ⟨_, rfl⟩
  have HM := Lib.hid hM
  rw [hM]
  obtain ⟨tgt, htg⟩ : ∃ tgt, bs ++ (byte 40 :: (D ++ M)) = tgt := ⟨_, rfl⟩
  have HTG : Hid (((bs ++ [byte 40]) ++ D) ++ M = tgt) := by
    unfold Hid
    rw [← htg]
    simp
  rw [htg]
  rw [← hkn] at CI
  have HB := Lib.hid hb
  have HBW := Lib.hid hB
  have n1 : ¬ w.heap.size = S := by omega
  unfold ndV
  clear htg hD hlen hb hB hS hkn hkl hM
  go_enter Tryd.func33, Tryd.ntmps33
  go_upto_region 1 with fail
  refine gen_world (fun X => Below w.heap.size w X ∧ Lies X w.heap.size (ndO h (.slice a n c))) ⟨below_one w _, Lies.new w _⟩ ?_
  rintro X ⟨bX, lX⟩
  have LX := Lib.hid lX
  have DX := Lib.hid (bld_below HB.out bX (Nat.le_refl _))
  have SX : Hid (B ≤ X.heap.size) := Nat.le_trans HBW.out bX.size
  have WX : Hid (Wrote B S w X) := Wrote.of_below bX (Nat.le_refl _) HBW.out
  clear bX lX HB
  go_upto_region 2 with (first
    | (go_at_call 34; refine (wbyteZ 40 40 rfl (by omega) B S bs X DX.out (by have := HDL.out; omega) SX.out).mono ?_; rintro e w2 ⟨rfl, d2, k2⟩; have D2 := Lib.hid d2; have W2 := Lib.hid (WX.out.trans k2); have L2 := Lib.hid (k2.node LX.out n1); clear d2 k2))
  have SX2 : Hid (B ≤ w2.heap.size) := Nat.le_trans HBW.out W2.out.size
  obtain ⟨a0, a1, a2, a3, a4, a5⟩ := L2.out.node
  go_upto_region 3 with (first
    | (go_at_call 44; refine (CI.out _).mono ?_; rintro e w3 ⟨rfl, hw⟩; rw [hw]; clear hw)
    | (go_at_call 43; refine (wstrK B S (bs ++ [byte 40]) ⟨D.toArray⟩ w2 D2.out (by have := HDL.out; show (bs ++ [byte 40]).length + D.toArray.size ≤ _; rw [List.size_toArray, List.length_append, List.length_singleton]; omega) SX2.out).mono ?_; rintro e w3 ⟨rfl, d3, k3⟩; have D3 : Hid (Bld B S ((bs ++ [byte 40]) ++ D) w3) := d3; have W3 := Lib.hid (W2.out.trans k3); have L3 := Lib.hid (k3.node L2.out n1); clear d3 k3))
  have SX3 : Hid (B ≤ w3.heap.size) := Nat.le_trans HBW.out W3.out.size
  clear a0 a1 a2 a3 a4 a5
  obtain ⟨a0, a1, a2, a3, a4, a5⟩ := L3.out.node
  by_cases g0 : h.form = 1
  · have g1 : (h.form == 1) = true := beq_iff_eq.2 g0
    have HF : Hid (((bs ++ [byte 40]) ++ D) ++ [byte 33] = tgt) := by
      have := HTG.out
      rw [← HM.out, if_pos g0] at this
      exact this
    clear g0 HM HTG
    go_wp2_with (first
      | (go_at_call 34; refine (wbyteZ 33 33 rfl (by omega) B S ((bs ++ [byte 40]) ++ D) w3 D3.out (by have := HDL.out; rw [List.length_append, List.length_append, List.length_singleton]; omega) SX3.out).mono ?_; rintro e w6 ⟨rfl, d6, k6⟩; have D6 := Lib.hid d6; have W6 := Lib.hid (W3.out.trans k6); clear d6 k6))
    go_end0
    exact ⟨rfl, by rw [← HF.out]; exact D6.out, W6.out⟩
  · have g1 : (h.form == 1) = false := beq_eq_false_iff_ne.2 g0
    have HF : Hid (((bs ++ [byte 40]) ++ D) = tgt) := by
      have := HTG.out
      rw [← HM.out, if_neg g0, List.append_nil] at this
      exact this
    clear g0 HM HTG
    go_wp2_with fail
    go_end0
    exact ⟨rfl, by rw [← HF.out]; exact D3.out, W3.out⟩
end Go.Proofs.YtmandanmndmnhaaDoor.Tre
