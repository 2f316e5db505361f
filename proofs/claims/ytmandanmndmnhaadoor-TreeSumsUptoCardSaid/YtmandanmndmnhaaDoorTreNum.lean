/-
  The document's own number. Conditions: texts of at most 2^46 bytes.
-/
import Derived.Test.YtmandanmndmnhaaDoorTreSho
namespace Go.Proofs.YtmandanmndmnhaaDoor.Tre
open Tks Go.RowKit
set_option linter.unusedSimpArgs false
set_option linter.unusedVariables false

theorem valL_append : ∀ (a b : List UInt8) (v : Nat), valL v (a ++ b) = valL (valL v a) b
  | [], b, v => rfl
  | c :: a, b, v => valL_append a b (v * 10 + (c.toNat - 48))
theorem digs_head (n : Nat) (l : List UInt8) (h : digs n l ≠ []) : (digs n l).head? = l.head? := by
  cases n with
  | zero => exact absurd rfl h
  | succ n =>
    cases l with
    | nil => exact absurd rfl h
    | cons c r =>
      unfold digs at h ⊢
      split
      · rfl
      · rename_i q
        rw [if_neg q] at h
        exact absurd rfl h
theorem numE_is {l pre : List UInt8} {n : Nat} (h : digs 3 l = pre) (hl : pre.length = n) : numE l = n := by
  unfold numE
  rw [h, hl]
theorem digs_step {c : UInt8} (h : isDig c = true) (m : Nat) (r : List UInt8) : digs (m + 1) (c :: r) = c :: digs m r := by
  conv => lhs; unfold digs
  rw [if_pos h]
theorem digs_zero (l : List UInt8) : digs 0 l = [] := by
  cases l <;> rfl
theorem digs_nil (n : Nat) : digs n [] = [] := by
  cases n <;> rfl
theorem valL_one (v : Nat) (c : UInt8) : valL v [c] = v * 10 + (c.toNat - 48) := rfl
theorem num_wraps {v c q : Nat} (hv : v ≤ 99) (hc : c < 256) (hq : q < 70368744177664) : wrap64 ((v : Int) * 10) = (v : Int) * 10 ∧ wrap64 (c : Int) = (c : Int) ∧ wrap64 ((v : Int) * 10 + (c : Int)) = (v : Int) * 10 + (c : Int) ∧ wrap64 ((v : Int) * 10 + (c : Int) - 48) = (v : Int) * 10 + (c : Int) - 48 ∧ wrap64 ((q : Int) + 1) = (q : Int) + 1 :=
  ⟨IntWalk.wrap64_in _ ⟨by omega, by omega⟩, IntWalk.wrap64_in _ ⟨by omega, by omega⟩, IntWalk.wrap64_in _ ⟨by omega, by omega⟩, IntWalk.wrap64_in _ ⟨by omega, by omega⟩, IntWalk.wrap64_in _ ⟨by omega, by omega⟩⟩
theorem num_end {a b : Int} {p m n q : Nat} (h : a = b) (h2 : m = n) (h3 : p + n = q) : Ending.returned (.tuple #[.int .i64 b, .int .i64 (q : Int)]) = Ending.returned (.tuple #[.int .i64 a, .int .i64 ((p + m : Nat) : Int)]) := by
  rw [h, h2, h3]
def capN : Nat → Nat
  | 0 => 0
  | n + 1 => capN n * 10 + 9
set_option maxRecDepth 1000000 in
set_option maxHeartbeats 8000000 in
theorem refnumber_any (s : ByteArray) (p : Nat) (hp : p ≤ s.size) (hs : s.size ≤ 70368744177664) (w : World) :
    Calls Tryd.prog 50 #[.string s, .int .i64 (p : Int)] w fun e w' => e = .returned (.tuple #[.int .i64 (numL (rest s p)), .int .i64 ((p + numE (rest s p) : Nat) : Int)]) ∧ w' = w := by
  have HP := Lib.hid hp
  have HS := Lib.hid hs
  have y3 : wrap64 ((p : Int) + 3) = (p : Int) + 3 := IntWalk.wrap64_in _ ⟨by omega, by omega⟩
  have y1 : wrap64 ((p : Int) + 1) = (p : Int) + 1 := IntWalk.wrap64_in _ ⟨by omega, by omega⟩
  have x3 : IntKind.i64.wrap ((p : Int) + 3) = (p : Int) + 3 := by rw [IntWalk.i64_left]; exact y3
  have x1 : IntKind.i64.wrap ((p : Int) + 1) = (p : Int) + 1 := by rw [IntWalk.i64_left]; exact y1
  clear hp hs
  go_enter Tryd.func50, Tryd.ntmps50
  go_wp2_with fail
  go_loop [1, 7] (fun iv vv => ∃ (n q v : Nat) (pre : List UInt8), iv = .int .i64 (q : Int) ∧ vv = .int .i64 (v : Int) ∧ Hid (p + n = q) ∧ Hid (q ≤ s.size) ∧ Hid (digs 3 (rest s p) = pre ++ digs (3 - n) (rest s q)) ∧ Hid (pre.length = n) ∧ Hid (valL 0 pre = v) ∧ n ≤ 3 ∧ Hid (v ≤ capN n)) (fun iv _ => s.size - (intOf iv).toNat)
  case atStart => exact ⟨0, p, 0, [], rfl, rfl, rfl, HP.out, rfl, rfl, rfl, by omega, Nat.le_refl _⟩
  case round =>
    obtain ⟨n, q, v, pre, rfl, rfl, HQ, HQS, HPRE, HLP, HV, hn, HCP⟩ := hrel
    by_cases a1 : q < s.size
    · have d1 : decide ((q : Int) < (s.size : Int)) = true := decide_eq_true (by omega)
      have d1n : decide (q < s.size) = true := decide_eq_true a1
      by_cases a2 : n = 3
      · have d2 : decide ((q : Int) < (p : Int) + 3) = false := decide_eq_false (by have := HQ.out; omega)
        have HX : Hid (digs 3 (rest s p) = pre) := by
          have := HPRE.out
          rw [a2, Nat.sub_self, digs_zero] at this
          unfold Hid
          rw [this, List.append_nil]
        by_cases n0 : n = 0
        · have e0 : ((q : Int) == (p : Int)) = true := by rw [beq_iff_eq]; have := HQ.out; omega
          have e1 : (q == p) = true := by rw [beq_iff_eq]; have := HQ.out; omega
          have HN : Hid (numL (rest s p) = -1) := by
            unfold Hid numL
            rw [HX.out, if_pos (.inl (List.eq_nil_of_length_eq_zero (HLP.out.trans n0)))]
          clear n0
          go_wp2_with fail
          go_ret2
          exact ⟨num_end HN.out (numE_is HX.out HLP.out) HQ.out, rfl⟩
        have e0 : ((q : Int) == (p : Int)) = false := by rw [beq_eq_false_iff_ne]; have := HQ.out; omega
        have e1 : (q == p) = false := by rw [beq_eq_false_iff_ne]; have := HQ.out; omega
        have hps : p < s.size := by have := HQS.out; have := HQ.out; omega
        obtain ⟨hd, hhd⟩ : ∃ hd, s[p] = hd := ⟨_, rfl⟩
        have HHD : Hid (pre.head? = some hd) := by
          have h2 := digs_head 3 (rest s p) (by rw [HX.out]; intro e; rw [e] at HLP; exact n0 HLP.out.symm)
          unfold Hid
          rw [← HX.out, h2, rest_cons s p hps, List.head?_cons, hhd]
        have k0 : (0 : Int) ≤ (p : Int) := by omega
        have k1 : (p : Int) < (s.size : Int) := by omega
        by_cases z0 : hd.toNat = 48
        · have z1 : ((hd.toNat : Int) == 48) = true := by rw [beq_iff_eq]; omega
          by_cases g0 : 1 < n
          · have g1 : decide ((p : Int) + 1 < (q : Int)) = true := decide_eq_true (by have := HQ.out; omega)
            have HN : Hid (numL (rest s p) = -1) := by
              unfold Hid numL
              rw [HX.out, if_pos (.inr ⟨by rw [HHD.out, byte_eq z0], by rw [HLP.out]; exact g0⟩)]
            clear n0 z0 g0
            go_wp2_with fail
            go_ret2
            exact ⟨num_end HN.out (numE_is HX.out HLP.out) HQ.out, rfl⟩
          · have g1 : decide ((p : Int) + 1 < (q : Int)) = false := decide_eq_false (by have := HQ.out; omega)
            have HN : Hid (numL (rest s p) = (v : Int)) := by
              unfold Hid numL
              rw [HX.out, if_neg, HV.out]
              rintro (e | ⟨-, e⟩)
              · rw [e] at HLP
                exact n0 HLP.out.symm
              · rw [HLP.out] at e
                exact g0 e
            clear n0 z0 g0
            go_wp2_with fail
            go_ret2
            exact ⟨num_end HN.out (numE_is HX.out HLP.out) HQ.out, rfl⟩
        have z1 : ((hd.toNat : Int) == 48) = false := by rw [beq_eq_false_iff_ne]; omega
        have HN : Hid (numL (rest s p) = (v : Int)) := by
          unfold Hid numL
          rw [HX.out, if_neg, HV.out]
          rintro (e | ⟨e, -⟩)
          · rw [e] at HLP
            exact n0 HLP.out.symm
          · rw [HHD.out] at e
            injection e with e
            exact z0 (by rw [e]; exact byte_nat 48 (by omega))
        clear n0 z0
        go_wp2_with fail
        go_ret2
        exact ⟨num_end HN.out (numE_is HX.out HLP.out) HQ.out, rfl⟩
      have d2 : decide ((q : Int) < (p : Int) + 3) = true := decide_eq_true (by have := HQ.out; omega)
      have i0 : (0 : Int) ≤ (q : Int) := by omega
      have i1 : (q : Int) < (s.size : Int) := by omega
      obtain ⟨c, hc⟩ : ∃ c, s[q] = c := ⟨_, rfl⟩
      have HRQ := Lib.hid (rest_cons s q a1)
      have HRC : Hid (rest s q = c :: rest s (q + 1)) := by rw [← hc]; exact HRQ.out
      have hc256 := nat_lt c
      by_cases b1 : 48 ≤ c.toNat
      · have f1 : decide ((48 : Int) ≤ (c.toNat : Int)) = true := decide_eq_true (by omega)
        by_cases b2 : c.toNat ≤ 57
        · have f2 : decide ((c.toNat : Int) ≤ 57) = true := decide_eq_true (by omega)
          have hdg : isDig c = true := by unfold isDig; rw [decide_eq_true b1, decide_eq_true b2]; rfl
          have hv9 : v ≤ 99 := by
            have := HCP.out
            have : n = 0 ∨ n = 1 ∨ n = 2 := by omega
            rcases this with e | e | e
            all_goals
              rw [e] at HCP
              have := HCP.out
              simp [capN] at this
              omega
          have HC2 : Hid (v * 10 + (c.toNat - 48) ≤ capN (n + 1)) := by
            have := HCP.out
            unfold Hid
            show v * 10 + (c.toNat - 48) ≤ capN n * 10 + 9
            omega
          have HP2 : Hid (digs 3 (rest s p) = (pre ++ [c]) ++ digs (3 - (n + 1)) (rest s (q + 1))) := by
            have := HPRE.out
            rw [HRC.out, show 3 - n = (3 - (n + 1)) + 1 from by omega, digs_step hdg] at this
            unfold Hid
            rw [this]
            simp
          have HV2 : Hid (valL 0 (pre ++ [c]) = v * 10 + (c.toNat - 48)) := by
            unfold Hid
            rw [valL_append, HV.out, valL_one]
          have HA1 := Lib.hid a1
          have HB1 := Lib.hid b1
          have u0 := num_wraps hv9 hc256 (Nat.lt_of_lt_of_le a1 HS.out)
          obtain ⟨u1, u2, u3, u4, u5⟩ := u0
          have t1 : IntKind.i64.wrap ((v : Int) * 10) = (v : Int) * 10 := by rw [IntWalk.i64_left]; exact u1
          have t2 : IntKind.i64.wrap (c.toNat : Int) = (c.toNat : Int) := by rw [IntWalk.i64_left]; exact u2
          have t3 : IntKind.i64.wrap ((v : Int) * 10 + (c.toNat : Int)) = (v : Int) * 10 + (c.toNat : Int) := by rw [IntWalk.i64_left]; exact u3
          have t4 : IntKind.i64.wrap ((v : Int) * 10 + (c.toNat : Int) - 48) = (v : Int) * 10 + (c.toNat : Int) - 48 := by rw [IntWalk.i64_left]; exact u4
          have t5 : IntKind.i64.wrap ((q : Int) + 1) = (q : Int) + 1 := by rw [IntWalk.i64_left]; exact u5
          clear hdg hv9 b1 b2 hc256
          go_wp2_with fail
          go_round
          case rel =>
            clear u1 u2 u3 u4 u5 t1 t2 t3 t4 t5 y1 y3 x1 x3
            refine ⟨n + 1, q + 1, v * 10 + (c.toNat - 48), pre ++ [c], ?_, ?_, by have := HQ.out; unfold Hid; omega, HA1.out, HP2, by have := HLP.out; unfold Hid; rw [List.length_append, this]; rfl, HV2, by omega, HC2⟩
            · trace_state
              rfl
            · congr 1
              have := HB1.out
              omega
          case measure =>
            clear u1 u2 u3 u4 u5 t1 t2 t3 t4 t5 y1 y3 x1 x3
            have := HA1.out
            simp only [intOf]
            omega
        · have f2 : decide ((c.toNat : Int) ≤ 57) = false := decide_eq_false (by omega)
          have hdg : isDig c = false := by unfold isDig; rw [decide_eq_true b1, decide_eq_false b2]; rfl
          have HD0 : Hid (digs (3 - n) (rest s q) = []) := by
            unfold Hid
            rw [HRC.out]
            exact digs_no _ (fun x r e => by cases e; exact hdg)
          clear hdg b1 b2 hc256
          have HX : Hid (digs 3 (rest s p) = pre) := by
            have := HPRE.out
            rw [HD0.out] at this
            unfold Hid
            rw [this, List.append_nil]
          by_cases n0 : n = 0
          · have e0 : ((q : Int) == (p : Int)) = true := by rw [beq_iff_eq]; have := HQ.out; omega
            have e1 : (q == p) = true := by rw [beq_iff_eq]; have := HQ.out; omega
            have HN : Hid (numL (rest s p) = -1) := by
              unfold Hid numL
              rw [HX.out, if_pos (.inl (List.eq_nil_of_length_eq_zero (HLP.out.trans n0)))]
            clear n0
            go_wp2_with fail
            go_ret2
            exact ⟨num_end HN.out (numE_is HX.out HLP.out) HQ.out, rfl⟩
          have e0 : ((q : Int) == (p : Int)) = false := by rw [beq_eq_false_iff_ne]; have := HQ.out; omega
          have e1 : (q == p) = false := by rw [beq_eq_false_iff_ne]; have := HQ.out; omega
          have hps : p < s.size := by have := HQS.out; have := HQ.out; omega
          obtain ⟨hd, hhd⟩ : ∃ hd, s[p] = hd := ⟨_, rfl⟩
          have HHD : Hid (pre.head? = some hd) := by
            have h2 := digs_head 3 (rest s p) (by rw [HX.out]; intro e; rw [e] at HLP; exact n0 HLP.out.symm)
            unfold Hid
            rw [← HX.out, h2, rest_cons s p hps, List.head?_cons, hhd]
          have k0 : (0 : Int) ≤ (p : Int) := by omega
          have k1 : (p : Int) < (s.size : Int) := by omega
          by_cases z0 : hd.toNat = 48
          · have z1 : ((hd.toNat : Int) == 48) = true := by rw [beq_iff_eq]; omega
            by_cases g0 : 1 < n
            · have g1 : decide ((p : Int) + 1 < (q : Int)) = true := decide_eq_true (by have := HQ.out; omega)
              have HN : Hid (numL (rest s p) = -1) := by
                unfold Hid numL
                rw [HX.out, if_pos (.inr ⟨by rw [HHD.out, byte_eq z0], by rw [HLP.out]; exact g0⟩)]
              clear n0 z0 g0
              go_wp2_with fail
              go_ret2
              exact ⟨num_end HN.out (numE_is HX.out HLP.out) HQ.out, rfl⟩
            · have g1 : decide ((p : Int) + 1 < (q : Int)) = false := decide_eq_false (by have := HQ.out; omega)
              have HN : Hid (numL (rest s p) = (v : Int)) := by
                unfold Hid numL
                rw [HX.out, if_neg, HV.out]
                rintro (e | ⟨-, e⟩)
                · rw [e] at HLP
                  exact n0 HLP.out.symm
                · rw [HLP.out] at e
                  exact g0 e
              clear n0 z0 g0
              go_wp2_with fail
              go_ret2
              exact ⟨num_end HN.out (numE_is HX.out HLP.out) HQ.out, rfl⟩
          have z1 : ((hd.toNat : Int) == 48) = false := by rw [beq_eq_false_iff_ne]; omega
          have HN : Hid (numL (rest s p) = (v : Int)) := by
            unfold Hid numL
            rw [HX.out, if_neg, HV.out]
            rintro (e | ⟨e, -⟩)
            · rw [e] at HLP
              exact n0 HLP.out.symm
            · rw [HHD.out] at e
              injection e with e
              exact z0 (by rw [e]; exact byte_nat 48 (by omega))
          clear n0 z0
          go_wp2_with fail
          go_ret2
          exact ⟨num_end HN.out (numE_is HX.out HLP.out) HQ.out, rfl⟩
      · have f1 : decide ((48 : Int) ≤ (c.toNat : Int)) = false := decide_eq_false (by omega)
        have hdg : isDig c = false := by unfold isDig; rw [decide_eq_false b1]; rfl
        have HD0 : Hid (digs (3 - n) (rest s q) = []) := by
          unfold Hid
          rw [HRC.out]
          exact digs_no _ (fun x r e => by cases e; exact hdg)
        clear hdg b1 hc256
        have HX : Hid (digs 3 (rest s p) = pre) := by
          have := HPRE.out
          rw [HD0.out] at this
          unfold Hid
          rw [this, List.append_nil]
        by_cases n0 : n = 0
        · have e0 : ((q : Int) == (p : Int)) = true := by rw [beq_iff_eq]; have := HQ.out; omega
          have e1 : (q == p) = true := by rw [beq_iff_eq]; have := HQ.out; omega
          have HN : Hid (numL (rest s p) = -1) := by
            unfold Hid numL
            rw [HX.out, if_pos (.inl (List.eq_nil_of_length_eq_zero (HLP.out.trans n0)))]
          clear n0
          go_wp2_with fail
          go_ret2
          exact ⟨num_end HN.out (numE_is HX.out HLP.out) HQ.out, rfl⟩
        have e0 : ((q : Int) == (p : Int)) = false := by rw [beq_eq_false_iff_ne]; have := HQ.out; omega
        have e1 : (q == p) = false := by rw [beq_eq_false_iff_ne]; have := HQ.out; omega
        have hps : p < s.size := by have := HQS.out; have := HQ.out; omega
        obtain ⟨hd, hhd⟩ : ∃ hd, s[p] = hd := ⟨_, rfl⟩
        have HHD : Hid (pre.head? = some hd) := by
          have h2 := digs_head 3 (rest s p) (by rw [HX.out]; intro e; rw [e] at HLP; exact n0 HLP.out.symm)
          unfold Hid
          rw [← HX.out, h2, rest_cons s p hps, List.head?_cons, hhd]
        have k0 : (0 : Int) ≤ (p : Int) := by omega
        have k1 : (p : Int) < (s.size : Int) := by omega
        by_cases z0 : hd.toNat = 48
        · have z1 : ((hd.toNat : Int) == 48) = true := by rw [beq_iff_eq]; omega
          by_cases g0 : 1 < n
          · have g1 : decide ((p : Int) + 1 < (q : Int)) = true := decide_eq_true (by have := HQ.out; omega)
            have HN : Hid (numL (rest s p) = -1) := by
              unfold Hid numL
              rw [HX.out, if_pos (.inr ⟨by rw [HHD.out, byte_eq z0], by rw [HLP.out]; exact g0⟩)]
            clear n0 z0 g0
            go_wp2_with fail
            go_ret2
            exact ⟨num_end HN.out (numE_is HX.out HLP.out) HQ.out, rfl⟩
          · have g1 : decide ((p : Int) + 1 < (q : Int)) = false := decide_eq_false (by have := HQ.out; omega)
            have HN : Hid (numL (rest s p) = (v : Int)) := by
              unfold Hid numL
              rw [HX.out, if_neg, HV.out]
              rintro (e | ⟨-, e⟩)
              · rw [e] at HLP
                exact n0 HLP.out.symm
              · rw [HLP.out] at e
                exact g0 e
            clear n0 z0 g0
            go_wp2_with fail
            go_ret2
            exact ⟨num_end HN.out (numE_is HX.out HLP.out) HQ.out, rfl⟩
        have z1 : ((hd.toNat : Int) == 48) = false := by rw [beq_eq_false_iff_ne]; omega
        have HN : Hid (numL (rest s p) = (v : Int)) := by
          unfold Hid numL
          rw [HX.out, if_neg, HV.out]
          rintro (e | ⟨e, -⟩)
          · rw [e] at HLP
            exact n0 HLP.out.symm
          · rw [HHD.out] at e
            injection e with e
            exact z0 (by rw [e]; exact byte_nat 48 (by omega))
        clear n0 z0
        go_wp2_with fail
        go_ret2
        exact ⟨num_end HN.out (numE_is HX.out HLP.out) HQ.out, rfl⟩
    · have d1 : decide ((q : Int) < (s.size : Int)) = false := decide_eq_false (by omega)
      have d1n : decide (q < s.size) = false := decide_eq_false a1
      have HD0 : Hid (digs (3 - n) (rest s q) = []) := by
        unfold Hid
        rw [rest_nil s q (by omega)]
        exact digs_nil _
      have HX : Hid (digs 3 (rest s p) = pre) := by
        have := HPRE.out
        rw [HD0.out] at this
        unfold Hid
        rw [this, List.append_nil]
      by_cases n0 : n = 0
      · have e0 : ((q : Int) == (p : Int)) = true := by rw [beq_iff_eq]; have := HQ.out; omega
        have e1 : (q == p) = true := by rw [beq_iff_eq]; have := HQ.out; omega
        have HN : Hid (numL (rest s p) = -1) := by
          unfold Hid numL
          rw [HX.out, if_pos (.inl (List.eq_nil_of_length_eq_zero (HLP.out.trans n0)))]
        clear n0
        go_wp2_with fail
        go_ret2
        exact ⟨num_end HN.out (numE_is HX.out HLP.out) HQ.out, rfl⟩
      have e0 : ((q : Int) == (p : Int)) = false := by rw [beq_eq_false_iff_ne]; have := HQ.out; omega
      have e1 : (q == p) = false := by rw [beq_eq_false_iff_ne]; have := HQ.out; omega
      have hps : p < s.size := by have := HQS.out; have := HQ.out; omega
      obtain ⟨hd, hhd⟩ : ∃ hd, s[p] = hd := ⟨_, rfl⟩
      have HHD : Hid (pre.head? = some hd) := by
        have h2 := digs_head 3 (rest s p) (by rw [HX.out]; intro e; rw [e] at HLP; exact n0 HLP.out.symm)
        unfold Hid
        rw [← HX.out, h2, rest_cons s p hps, List.head?_cons, hhd]
      have k0 : (0 : Int) ≤ (p : Int) := by omega
      have k1 : (p : Int) < (s.size : Int) := by omega
      by_cases z0 : hd.toNat = 48
      · have z1 : ((hd.toNat : Int) == 48) = true := by rw [beq_iff_eq]; omega
        by_cases g0 : 1 < n
        · have g1 : decide ((p : Int) + 1 < (q : Int)) = true := decide_eq_true (by have := HQ.out; omega)
          have HN : Hid (numL (rest s p) = -1) := by
            unfold Hid numL
            rw [HX.out, if_pos (.inr ⟨by rw [HHD.out, byte_eq z0], by rw [HLP.out]; exact g0⟩)]
          clear n0 z0 g0
          go_wp2_with fail
          go_ret2
          exact ⟨num_end HN.out (numE_is HX.out HLP.out) HQ.out, rfl⟩
        · have g1 : decide ((p : Int) + 1 < (q : Int)) = false := decide_eq_false (by have := HQ.out; omega)
          have HN : Hid (numL (rest s p) = (v : Int)) := by
            unfold Hid numL
            rw [HX.out, if_neg, HV.out]
            rintro (e | ⟨-, e⟩)
            · rw [e] at HLP
              exact n0 HLP.out.symm
            · rw [HLP.out] at e
              exact g0 e
          clear n0 z0 g0
          go_wp2_with fail
          go_ret2
          exact ⟨num_end HN.out (numE_is HX.out HLP.out) HQ.out, rfl⟩
      have z1 : ((hd.toNat : Int) == 48) = false := by rw [beq_eq_false_iff_ne]; omega
      have HN : Hid (numL (rest s p) = (v : Int)) := by
        unfold Hid numL
        rw [HX.out, if_neg, HV.out]
        rintro (e | ⟨e, -⟩)
        · rw [e] at HLP
          exact n0 HLP.out.symm
        · rw [HHD.out] at e
          injection e with e
          exact z0 (by rw [e]; exact byte_nat 48 (by omega))
      clear n0 z0
      go_wp2_with fail
      go_ret2
      exact ⟨num_end HN.out (numE_is HX.out HLP.out) HQ.out, rfl⟩
end Go.Proofs.YtmandanmndmnhaaDoor.Tre
