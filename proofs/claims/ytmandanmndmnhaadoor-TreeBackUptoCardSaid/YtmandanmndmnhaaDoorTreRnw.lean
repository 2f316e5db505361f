/-
  The program's reader: numbers below a limit. Conditions: texts of at most 2^24 bytes, limits of at most 100.
-/
import Derived.Test.YtmandanmndmnhaaDoorTreRnm
namespace Go.Proofs.YtmandanmndmnhaaDoor.Tre
open Tks Go.RowKit
set_option linter.unusedSimpArgs false
set_option linter.unusedVariables false

theorem num_wr2 {val c m nv dg m1 : Nat} (hv : val < 100) (h1 : 48 ≤ c) (h2 : c ≤ 57) (hm : m ≤ 16777216) (e1 : 10 * val + (c - 48) = nv) (e2 : c - 48 = dg) (e3 : m + 1 = m1) :
    wrap64 (10 * (val : Int)) = 10 * (val : Int) ∧ IntKind.i64.wrap (10 * (val : Int)) = 10 * (val : Int) ∧ IntKind.u8.wrap ((c : Int) - 48) = (dg : Int) ∧ wrap64 (dg : Int) = (dg : Int) ∧ IntKind.i64.wrap (dg : Int) = (dg : Int) ∧ wrap64 (10 * (val : Int) + (dg : Int)) = (nv : Int) ∧ IntKind.i64.wrap (10 * (val : Int) + (dg : Int)) = (nv : Int) ∧ wrap64 ((m : Int) + 1) = (m1 : Int) ∧ IntKind.i64.wrap ((m : Int) + 1) = (m1 : Int) := by
  obtain ⟨y1, y2, y3, y4, y5⟩ := num_wr hv h1 h2 hm
  rw [e1] at y4
  rw [e2] at y2 y3 y4
  rw [e3] at y5
  exact ⟨y1, by rw [IntWalk.i64_left]; exact y1, y2, y3, by rw [IntWalk.i64_left]; exact y3, y4, by rw [IntWalk.i64_left]; exact y4, y5, by rw [IntWalk.i64_left]; exact y5⟩
set_option maxRecDepth 1000000 in
set_option maxHeartbeats 8000000 in
theorem number_any (t : ByteArray) (hs : t.size ≤ 16777216) (lim : Nat) (hl : lim ≤ 100) (hl0 : 0 < lim) (R : Nat) (w : World) (hr : Rd w R t) :
    Calls Tryd.prog 48 #[.pointer (some ⟨R, 0, none⟩), .int .i64 (lim : Int)] w (NumOut t lim R w) := by
  have c0 := hr.c0
  have f0 := hr.free0
  have HR := Lib.hid hr
  have HS := Lib.hid hs
  have HL := Lib.hid hl
  have H0 := Lib.hid (St.zero (toL t) lim hl0)
  clear hr hs hl hl0
  go_enter Tryd.func48, Tryd.ntmps48
  go_wp2_with fail
  go_loopw [6, 7] (fun vv sv wr => ∃ m val : Nat, vv = .int .i64 (val : Int) ∧ sv = .int .i64 (m : Int) ∧ wr = w ∧ Hid (St (toL t) lim m val)) (fun _ sv _ => t.size - (intOf sv).toNat)
  case atStart => exact ⟨0, 0, rfl, rfl, rfl, H0.out⟩
  case round =>
    obtain ⟨m, val, rfl, rfl, rfl, HST⟩ := hrel
    have i0 : (0 : Int) ≤ (m : Int) := by omega
    have hmle : m ≤ t.size := by have := HST.out.le; rwa [toL_len] at this
    by_cases h1 : m < t.size
    · have d1 : decide ((m : Int) < (t.size : Int)) = true := decide_eq_true (by omega)
      have d1n : decide (m < t.size) = true := decide_eq_true h1
      have i1 : (m : Int) < (t.size : Int) := by omega
      obtain ⟨ch, hch⟩ : ∃ ch, t[m] = ch := ⟨_, rfl⟩
      have hget := toL_get t m h1
      rw [hch] at hget
      have HG := Lib.hid hget
      have hc256 := nat_lt ch
      by_cases h2 : 48 ≤ ch.toNat
      · have d2 : decide ((48 : Int) ≤ (ch.toNat : Int)) = true := decide_eq_true (by omega)
        by_cases h3 : ch.toNat ≤ 57
        · have d3 : decide ((ch.toNat : Int) ≤ 57) = true := decide_eq_true (by omega)
          have HDG := Lib.hid ((isDig_iff ch).2 ⟨h2, h3⟩)
          have i2 : (0 : Int) < (t.size : Int) := by omega
          obtain ⟨nv, hnv⟩ : ∃ nv, 10 * val + (ch.toNat - 48) = nv := ⟨_, rfl⟩
          obtain ⟨dg, hdg⟩ : ∃ dg, ch.toNat - 48 = dg := ⟨_, rfl⟩
          obtain ⟨m1, hm1⟩ : ∃ m1, m + 1 = m1 := ⟨_, rfl⟩
          have HWR := Lib.hid (num_wr2 (HST.out.hundred HL.out) h2 h3 (by have := HS.out; omega : m ≤ 16777216) hnv hdg hm1)
          have HNV := Lib.hid hnv
          have HP := Lib.hid h1
          by_cases g1 : lim ≤ nv
          · have q1 : decide ((lim : Int) ≤ (nv : Int)) = true := decide_eq_true (by omega)
            have q1n : decide (lim ≤ nv) = true := decide_eq_true g1
            have HF : Hid (numOk (toL t) lim = false) := HST.out.great hget HDG.out (by rw [hnv]; exact g1)
            clear hget h2 h3 hnv hdg g1 hc256 hmle hm1
            obtain ⟨y1, y2, y3, y4, y5, y6, y7, y8, y9⟩ := HWR.out
            clear HWR
            go_wp2_with fail
            go_ret2
            exact ⟨0, t, by rw [HF.out]; rfl, HR.out, Only.refl _ _, Nat.le_refl _, fun e => absurd (e.symm.trans HF.out) (by decide)⟩
          · have q1 : decide ((lim : Int) ≤ (nv : Int)) = false := decide_eq_false (by omega)
            have q1n : decide (lim ≤ nv) = false := decide_eq_false g1
            by_cases g2 : 0 < m
            · have q2 : decide ((1 : Int) < (m1 : Int)) = true := decide_eq_true (by omega)
              have q2n : decide (1 < m1) = true := decide_eq_true (by omega)
              by_cases g3 : t[0].toNat = 48
              · have q3 : (((t[0].toNat : Nat) : Int) == 48) = true := by rw [beq_iff_eq]; omega
                have q3n : (t[0].toNat == 48) = true := by rw [beq_iff_eq]; exact g3
                have HF : Hid (numOk (toL t) lim = false) := HST.out.nought hget HDG.out g2 (by rw [toL_at t (by omega), List.head?_cons, byte_eq g3])
                clear hget h2 h3 hnv hdg g1 g2 g3 hc256 hmle hm1
                obtain ⟨y1, y2, y3, y4, y5, y6, y7, y8, y9⟩ := HWR.out
                clear HWR
                go_wp2_with fail
                go_ret2
                exact ⟨0, t, by rw [HF.out]; rfl, HR.out, Only.refl _ _, Nat.le_refl _, fun e => absurd (e.symm.trans HF.out) (by decide)⟩
              · have q3 : (((t[0].toNat : Nat) : Int) == 48) = false := by rw [beq_eq_false_iff_ne]; omega
                have q3n : (t[0].toNat == 48) = false := by rw [beq_eq_false_iff_ne]; exact g3
                have HN : Hid (St (toL t) lim m1 nv) := by
                  rw [← hm1, ← hnv]
                  exact HST.out.next HL.out hget HDG.out (by rw [hnv]; exact g1) (fun q => g3 (by
                    have h := q.2
                    rw [toL_at t (by omega), List.head?_cons] at h
                    injection h with h
                    rw [h]
                    exact byte_nat 48 (by omega)))
                have HM1 := Lib.hid hm1
                clear hget h2 h3 hnv hdg g1 g2 g3 hc256 hmle hm1
                obtain ⟨y1, y2, y3, y4, y5, y6, y7, y8, y9⟩ := HWR.out
                clear HWR
                go_wp2_with fail
                go_roundw
                case rel => exact ⟨m1, nv, rfl, rfl, trivial, HN.out⟩
                case measure => clear y1 y2 y3 y4 y5 y6 y7 y8 y9; have := HP.out; have := HM1.out; simp only [intOf]; omega
            · have q2 : decide ((1 : Int) < (m1 : Int)) = false := decide_eq_false (by omega)
              have q2n : decide (1 < m1) = false := decide_eq_false (by omega)
              have HN : Hid (St (toL t) lim m1 nv) := by
                rw [← hm1, ← hnv]
                exact HST.out.next HL.out hget HDG.out (by rw [hnv]; exact g1) (fun q => g2 q.1)
              have HM1 := Lib.hid hm1
              clear hget h2 h3 hnv hdg g1 g2 hc256 hmle hm1
              obtain ⟨y1, y2, y3, y4, y5, y6, y7, y8, y9⟩ := HWR.out
              clear HWR
              go_wp2_with fail
              go_roundw
              case rel => exact ⟨m1, nv, rfl, rfl, trivial, HN.out⟩
              case measure => clear y1 y2 y3 y4 y5 y6 y7 y8 y9; have := HP.out; have := HM1.out; simp only [intOf]; omega
        · have d3 : decide ((ch.toNat : Int) ≤ 57) = false := decide_eq_false (by omega)
          have HF := Lib.hid (HST.out.stop (nodig_at hget (by cases e : isDig ch with | false => rfl | true => exact absurd ((isDig_iff ch).1 e).2 h3)))
          have i3 : (m : Int) ≤ (t.size : Int) := by omega
          clear hget h2 h3 hc256 HG
          go_wp2_with fail
          go_ret2
          refine ⟨(val : Int), t.extract m t.size, ?_, HR.out.set _, (Only.refl _ _).set 0 _, by rw [cut_size]; omega, fun e => ?_⟩
          · rw [HF.out.1]
            first | rfl | (congr 4; simp) | simp
          · rw [HF.out.1] at e
            exact ⟨(HF.out.2.1 (of_decide_eq_true e)).symm, by rw [toL_cut, HF.out.2.2]⟩
      · have d2 : decide ((48 : Int) ≤ (ch.toNat : Int)) = false := decide_eq_false (by omega)
        have HF := Lib.hid (HST.out.stop (nodig_at hget (by cases e : isDig ch with | false => rfl | true => exact absurd ((isDig_iff ch).1 e).1 h2)))
        have i3 : (m : Int) ≤ (t.size : Int) := by omega
        clear hget h2 hc256 HG
        go_wp2_with fail
        go_ret2
        refine ⟨(val : Int), t.extract m t.size, ?_, HR.out.set _, (Only.refl _ _).set 0 _, by rw [cut_size]; omega, fun e => ?_⟩
        · rw [HF.out.1]
          first | rfl | (congr 4; simp) | simp
        · rw [HF.out.1] at e
          exact ⟨(HF.out.2.1 (of_decide_eq_true e)).symm, by rw [toL_cut, HF.out.2.2]⟩
    · have d1 : decide ((m : Int) < (t.size : Int)) = false := decide_eq_false (by omega)
      have d1n : decide (m < t.size) = false := decide_eq_false h1
      have HF := Lib.hid (HST.out.stop (nodig_end (by rw [toL_len]; omega)))
      have i3 : (m : Int) ≤ (t.size : Int) := by omega
      go_wp2_with fail
      go_ret2
      refine ⟨(val : Int), t.extract m t.size, ?_, HR.out.set _, (Only.refl _ _).set 0 _, by rw [cut_size]; omega, fun e => ?_⟩
      · rw [HF.out.1]
        first | rfl | (congr 4; simp) | simp
      · rw [HF.out.1] at e
        exact ⟨(HF.out.2.1 (of_decide_eq_true e)).symm, by rw [toL_cut, HF.out.2.2]⟩
end Go.Proofs.YtmandanmndmnhaaDoor.Tre
