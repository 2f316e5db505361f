/-
  The contracts of the document's own Short and Float. Condition: the string has at most 2^50 bytes.
-/
import Derived.Test.YtiifjegjmhbhkaaDoorNumRdc
import Derived.Test.YtiifjegjmhbhkaaDoorNumFlt
import Derived.Deep.Cut
namespace Go.Proofs.YtiifjegjmhbhkaaDoor.Num
open Go.RowKit Gly
open Go.Lib (decDigits)
set_option linter.unusedSimpArgs false
set_option linter.unusedVariables false

theorem rstrip_snoc (L : List UInt8) (x : UInt8) : rstrip (L ++ [x]) = if x = 48 then rstrip L else L ++ [x] := by
  unfold rstrip
  rw [List.reverse_append, List.reverse_singleton, List.singleton_append, strip_cons]
  split
  · rfl
  · rw [List.reverse_cons, List.reverse_reverse]
theorem rstrip_one (x : UInt8) (h : x ≠ 48) : rstrip [x] = [x] := by
  have := rstrip_snoc [] x
  rw [List.nil_append, if_neg h] at this
  exact this

/-- The place behind the last byte that is no nought, at least 1. -/
theorem short_loop_end (s : ByteArray) (n : Nat) (h1 : 1 ≤ n) (hn : n ≤ s.size) (hh : ∀ (h : 0 < s.size), s[0].toNat ≠ 48) (hs : ¬ (1 < n ∧ bt s.data.toList (n - 1) = 48)) : rstrip (s.data.toList.take n) = s.data.toList.take n := by
  have hL := Lib.size_eq s
  obtain ⟨m, rfl⟩ : ∃ m, n = m + 1 := ⟨n - 1, by omega⟩
  have e : s.data.toList.take (m + 1) = s.data.toList.take m ++ [s[m]] := by
    rw [List.take_succ_eq_append_getElem (by omega)]
    rfl
  rw [e, rstrip_snoc, if_neg]
  intro h48
  have hb : bt s.data.toList m = 48 := by rw [bt_in s m (by omega), h48]; rfl
  rcases Nat.eq_zero_or_pos m with h0 | h0
  · subst h0
    exact hh (by omega) (by rw [h48]; rfl)
  · exact hs ⟨by omega, hb⟩
theorem short_loop_step (s : ByteArray) (m : Nat) (hm : m < s.size) (h48 : s[m].toNat = 48) : rstrip (s.data.toList.take (m + 1)) = rstrip (s.data.toList.take m) := by
  have hL := Lib.size_eq s
  have e : s.data.toList.take (m + 1) = s.data.toList.take m ++ [s[m]] := by
    rw [List.take_succ_eq_append_getElem (by omega)]
    rfl
  rw [e, rstrip_snoc, if_pos (UInt8.toNat_inj.1 h48)]

theorem rshort_nought (t : Int) (w : World) :
    Calls Tryd.prog 35 #[.string ⟨#[48]⟩, .int .i64 t] w fun e w' => e = .returned (.tuple #[.string ⟨#[48]⟩, .int .i64 0]) ∧ w = w' := by
  go_enter Tryd.func35, Tryd.ntmps35
  go_wp2_with fail
  go_ret2
  exact ⟨rfl, rfl⟩
theorem rshort_other (s : ByteArray) (t : Int) (hs : s.size ≤ 1125899906842624) (h0 : 0 < s.size) (hh : ∀ (h : 0 < s.size), s[0].toNat ≠ 48) (hne : (s.toList == [48]) = false) (ht : -4611686018427387904 ≤ t ∧ t ≤ 4611686018427387904) (w : World) :
    Calls Tryd.prog 35 #[.string s, .int .i64 t] w fun e w' => e = .returned (.tuple #[.string ⟨(rstrip s.data.toList).toArray⟩, .int .i64 (t + (s.size : Int) - ((rstrip s.data.toList).length : Int))]) ∧ w = w' := by
  have t1 := ht.1
  have t2 := ht.2
  have HH := Lib.hid hh
  have hL := Lib.hid (Lib.size_eq s)
  clear ht hh
  go_enter Tryd.func35, Tryd.ntmps35
  go_wp2_with fail
  go_loop [1, 6] (fun ev nv => ∃ n : Nat, nv = .int .i64 (n : Int) ∧ ev = .int .i64 (t + (s.size : Int) - (n : Int)) ∧ 1 ≤ n ∧ n ≤ s.size ∧ rstrip (s.data.toList.take n) = rstrip s.data.toList) (fun _ nv => (intOf nv).toNat)
  case atStart => exact ⟨s.size, rfl, by congr 1; omega, h0, Nat.le_refl _, by rw [hL.out, List.take_length]⟩
  case round =>
    obtain ⟨n, rfl, rfl, h1, hn, hq⟩ := hrel
    have HQ := Lib.hid hq
    clear hq
    obtain ⟨m, rfl⟩ : ∃ m, n = m + 1 := ⟨n - 1, by omega⟩
    have hmb := bt_in s m (by omega)
    have fin : ¬ (1 < m + 1 ∧ bt s.data.toList (m + 1 - 1) = 48) → Hid (s.extract 0 (m + 1) = ⟨(rstrip s.data.toList).toArray⟩ ∧ ((m + 1 : Nat) : Int) = ((rstrip s.data.toList).length : Int)) := fun h => by
      have := short_loop_end s (m + 1) h1 hn HH.out h
      rw [← HQ.out, this]
      refine ⟨bytes_ext (by rw [Lib.extract_data, List.drop_zero, Nat.sub_zero]), ?_⟩
      rw [List.length_take, ← hL.out]
      omega
    by_cases hm0 : m = 0
    · have FN := fin (by omega)
      subst hm0
      clear fin hmb
      go_wp2_with fail
      go_ret2
      refine ⟨?_, rfl⟩
      have f1 := FN.out.1
      have f2 := FN.out.2
      rw [← f1, ← f2]
      rfl
    · have hm1 : decide ((1 : Int) < (m : Int) + 1) = true := decide_eq_true (by omega)
      have hm2 : (m : Int) + 1 - 1 = (m : Int) := by omega
      by_cases h48 : s[m].toNat = 48
      · have HS : Hid (rstrip (s.data.toList.take m) = rstrip s.data.toList) := by unfold Hid; rw [← short_loop_step s m (by omega) h48]; exact HQ.out
        have x0 : (((s[m].toNat : Nat) : Int) == 48) = true := by rw [beq_iff_eq]; omega
        clear fin hmb h48
        go_wp2_with fail
        go_round
        case rel => exact ⟨m, by go_num, by congr 1; omega, by omega, by omega, HS.out⟩
        case measure => simp [intOf]
      · have FN := fin (by rw [Nat.add_sub_cancel, hmb]; omega)
        have x0 : (((s[m].toNat : Nat) : Int) == 48) = false := by rw [beq_eq_false_iff_ne]; omega
        clear fin hmb h48
        go_wp2_with fail
        go_ret2
        refine ⟨?_, rfl⟩
        have f1 := FN.out.1
        have f2 := FN.out.2
        rw [← f1, ← f2]
        rfl
theorem refShort_any (s : ByteArray) (t : Int) (hs : s.size ≤ 1125899906842624) (hb : Bare s.data.toList) (ht : -4611686018427387904 ≤ t ∧ t ≤ 4611686018427387904) (w : World) :
    Calls Tryd.prog 35 #[.string s, .int .i64 t] w fun e w' => e = .returned (.tuple #[.string ⟨(shortS s.data.toList t).1.toArray⟩, .int .i64 (shortS s.data.toList t).2]) ∧ w = w' := by
  rcases hb with h | ⟨h1, h2⟩
  · have e : s = ⟨#[48]⟩ := bytes_ext h
    subst e
    exact rshort_nought t w
  · have h3 : strip s.data.toList ≠ [] := by rw [h2]; exact h1
    unfold shortS
    rw [if_neg h3, h2, ← Lib.size_eq]
    have h0 : 0 < s.size := by
      rw [Lib.size_eq]
      exact List.length_pos_iff.2 h1
    have hc : s.data.toList = s[0] :: rest s 1 := rest_cons s 0 h0
    have h48 : s[0].toNat ≠ 48 := by
      intro h4
      rw [hc, strip_cons, if_pos (UInt8.toNat_inj.1 h4)] at h2
      have := congrArg List.length h2
      have := strip_len (rest s 1)
      rw [List.length_cons] at *
      omega
    refine rshort_other s t hs h0 (fun _ => h48) ?_ ht w
    rw [Lib.toList_data, beq_eq_false_iff_ne, hc]
    intro h5
    injection h5 with h6 _
    exact h48 (by rw [h6]; rfl)
theorem rflt_none (s : ByteArray) (C0 : Hid (∀ W, Calls Tryd.prog 26 #[.string s, .int .i64 12] W fun e' w' => e' = .returned (.bool false) ∧ W = w')) (w : World) :
    Calls Tryd.prog 19 #[.string s] w fun e w' => e = .returned (.tuple #[.string ⟨#[]⟩, .int .i64 0, .int .i64 40]) ∧ w = w' := by
  go_enter Tryd.func19, Tryd.ntmps19
  go_wp2_with (go_at_call 26; refine (C0.out _).mono ?_; rintro e w1 ⟨rfl, rfl⟩)
  go_ret3
  exact ⟨rfl, rfl⟩
theorem rflt_long (s : ByteArray) (hs : 1000 < s.size) (C0 : Hid (∀ W, Calls Tryd.prog 26 #[.string s, .int .i64 12] W fun e' w' => e' = .returned (.bool true) ∧ W = w')) (w : World) :
    Calls Tryd.prog 19 #[.string s] w fun e w' => e = .returned (.tuple #[.string ⟨#[]⟩, .int .i64 0, .int .i64 3]) ∧ w = w' := by
  have hlong : decide ((1000 : Int) < (s.size : Int)) = true := decide_eq_true (by omega)
  go_enter Tryd.func19, Tryd.ntmps19
  go_wp2_with (go_at_call 26; refine (C0.out _).mono ?_; rintro e w1 ⟨rfl, rfl⟩)
  go_ret3
  exact ⟨rfl, rfl⟩

set_option maxHeartbeats 2000000 in
set_option maxRecDepth 100000 in
theorem rflt_ok (s : ByteArray) (p m : Nat) (A B y : ByteArray) (x0 sg t : Int) (f EV : Nat) (ans : Value) (hs : s.size ≤ 1000) (hp : p < s.size) (hm : m ≤ s.size) (hx0 : -1000 ≤ x0 ∧ x0 ≤ 0) (hsg : sg = 1 ∨ sg = -1)
    (H5 : Hid ((s[p].toNat = 46 ∧ p + 1 ≤ m ∧ A = s.extract 0 p ++ s.extract (p + 1) m ∧ x0 = (p : Int) + 1 - (m : Int)) ∨ (s[p].toNat ≠ 46 ∧ m = p ∧ A = s.extract 0 p ∧ x0 = 0)))
    (H6 : Hid ((m = s.size ∧ EV = 0) ∨ (m < s.size ∧ ∃ h : m + 1 < s.size, f ≤ s.size ∧ (rest s f).all (isD 10) = true ∧ valOf 10 0 (rest s f) = EV ∧
      ((s[m + 1].toNat = 45 ∧ f = m + 2 ∧ sg = -1) ∨ (s[m + 1].toNat = 43 ∧ f = m + 2 ∧ sg = 1) ∨ (s[m + 1].toNat ≠ 45 ∧ s[m + 1].toNat ≠ 43 ∧ f = m + 1 ∧ sg = 1)))))
    (RL : Hid (1000000000 < EV → ans = .tuple #[.string ⟨#[]⟩, .int .i64 0, .int .i64 3])) (RO : Hid (EV ≤ 1000000000 → ans = .tuple #[.string y, .int .i64 t, .int .i64 0]))
    (C0 : Hid (∀ W, Calls Tryd.prog 26 #[.string s, .int .i64 12] W fun e' w' => e' = .returned (.bool true) ∧ W = w'))
    (C1 : Hid (∀ W, Calls Tryd.prog 23 #[.string s, .int .i64 0, .int .i64 10] W fun e' w' => e' = .returned (.int .i64 (p : Int)) ∧ W = w'))
    (C2 : Hid (s[p].toNat = 46 → ∀ W, Calls Tryd.prog 23 #[.string s, .int .i64 ((p : Int) + 1), .int .i64 10] W fun e' w' => e' = .returned (.int .i64 (m : Int)) ∧ W = w'))
    (C3 : Hid (∀ W, Calls Tryd.prog 31 #[.string A] W fun e' w' => e' = .returned (.string B) ∧ W = w'))
    (C4 : Hid (EV ≤ 1000000000 → ∀ W, Calls Tryd.prog 35 #[.string B, .int .i64 (x0 + sg * (EV : Int))] W fun e' w' => e' = .returned (.tuple #[.string y, .int .i64 t]) ∧ W = w')) (w : World) :
    Calls Tryd.prog 19 #[.string s] w fun e w' => e = .returned ans ∧ w = w' := by
  have hz : decide ((1000 : Int) < (s.size : Int)) = false := decide_eq_false (by omega)
  have hpi : (p : Int) ≤ (s.size : Int) := by omega
  have hmi : (m : Int) ≤ (s.size : Int) := by omega
  have HX0 := Lib.hid hx0
  have HSG := Lib.hid hsg
  clear hx0 hsg
  go_enter Tryd.func19, Tryd.ntmps19
  go_upto_if 28 with (first | (go_at_call 26; refine (C0.out _).mono ?_; rintro e w1 ⟨rfl, rfl⟩) | (go_at_call 23; refine (C1.out _).mono ?_; rintro e w1 ⟨rfl, rfl⟩))
  go_cut [5, 6, 7] from 14 (fun s5 s6 s7 wx => s5 = .int .i64 (m : Int) ∧ s6 = .string A ∧ s7 = .int .i64 x0 ∧ wx = w)
  case first =>
    rcases H5.out with ⟨q1, q2, q3, q4⟩ | ⟨q1, q2, q3, q4⟩
    · have D := Lib.hid (C2.out q1)
      have Q3 := Lib.hid q3
      have Q4 := Lib.hid q4
      have i1 : (p : Int) + 1 ≤ (m : Int) := by omega
      have c46 : (((s[p].toNat : Nat) : Int) == 46) = true := by rw [beq_iff_eq]; omega
      have l1 : s.extract 0 p = s.extract 0 p := rfl
      clear q1 q3 q4 l1
      go_wp2_with (go_at_call 23; refine (D.out _).mono ?_; rintro e w1 ⟨rfl, rfl⟩)
      go_meet
      case rel => exact ⟨rfl, by rw [Q3.out], by rw [Q4.out], rfl⟩
    · have c46 : (((s[p].toNat : Nat) : Int) == 46) = false := by rw [beq_eq_false_iff_ne]; omega
      have Q2 := Lib.hid q2
      have Q3 := Lib.hid q3
      have Q4 := Lib.hid q4
      clear q1 q2 q3 q4
      go_wp2_with fail
      go_meet
      case rel => exact ⟨by rw [Q2.out], by rw [Q3.out], by rw [Q4.out], rfl⟩
  case rest =>
    obtain ⟨rfl, rfl, rfl, rfl⟩ := hcut
    go_upto_if 48 with fail
    go_cut [7] from 14 (fun s7 wx => s7 = .int .i64 (x0 + sg * (EV : Int)) ∧ wx = wc ∧ EV ≤ 1000000000)
    case first =>
      rcases H6.out with ⟨q1, q2⟩ | ⟨q1, q2, q3, q4, q5, q6⟩
      · have hlt : decide (m < s.size) = false := decide_eq_false (by omega)
        have hge : ¬ m < s.size := by omega
        have Q2 := Lib.hid q2
        clear q1 q2
        go_wp2_with fail
        go_meet
        case rel => exact ⟨by rw [Q2.out]; simp, rfl, by rw [Q2.out]; omega⟩
      · have hlt : decide ((m : Int) < (s.size : Int)) = true := decide_eq_true (by omega)
        have Q4 := Lib.hid q4
        have Q5 := Lib.hid q5
        have Q6 := Lib.hid q6
        clear q4 q5 q6
        go_upto_if 54 with fail
        go_cut [9] from 14 (fun s9 wx => s9 = .int .i64 sg ∧ wx = wc)
        case first =>
          rcases Q6.out with ⟨r1, r2, r3⟩ | ⟨r1, r2, r3⟩ | ⟨r1, r2, r3, r4⟩
          · have c45 : (((s[m + 1].toNat : Nat) : Int) == 45) = true := by rw [beq_iff_eq]; omega
            have R3 := Lib.hid r3
            clear r1 r2 r3
            go_wp2_with fail
            go_meet
            case rel => exact ⟨by rw [R3.out], rfl⟩
          · have c45 : (((s[m + 1].toNat : Nat) : Int) == 45) = false := by rw [beq_eq_false_iff_ne]; omega
            have R3 := Lib.hid r3
            clear r1 r2 r3
            go_wp2_with fail
            go_meet
            case rel => exact ⟨by rw [R3.out], rfl⟩
          · have c45 : (((s[m + 1].toNat : Nat) : Int) == 45) = false := by rw [beq_eq_false_iff_ne]; omega
            have R3 := Lib.hid r4
            clear r1 r2 r3 r4
            go_wp2_with fail
            go_meet
            case rel => exact ⟨by rw [R3.out], rfl⟩
        case rest =>
          obtain ⟨rfl, rfl⟩ := hcut
          go_upto_region 17 with fail
          go_cut [64] from 14 (fun b wx => b = .bool (decide (s[m + 1].toNat = 45 ∨ s[m + 1].toNat = 43)) ∧ wx = wc)
          case first =>
            by_cases k1 : s[m + 1].toNat = 45
            · have c45 : (((s[m + 1].toNat : Nat) : Int) == 45) = true := by rw [beq_iff_eq]; omega
              have K : Hid (decide (s[m + 1].toNat = 45 ∨ s[m + 1].toNat = 43) = true) := decide_eq_true (.inl k1)
              clear k1
              go_wp2_with fail
              go_meet
              case rel => exact ⟨by rw [K.out], rfl⟩
            · by_cases k2 : s[m + 1].toNat = 43
              · have c45 : (((s[m + 1].toNat : Nat) : Int) == 45) = false := by rw [beq_eq_false_iff_ne]; omega
                have c43 : (((s[m + 1].toNat : Nat) : Int) == 43) = true := by rw [beq_iff_eq]; omega
                have K : Hid (decide (s[m + 1].toNat = 45 ∨ s[m + 1].toNat = 43) = true) := decide_eq_true (.inr k2)
                clear k1 k2
                go_wp2_with fail
                go_meet
                case rel => exact ⟨by rw [K.out], rfl⟩
              · have c45 : (((s[m + 1].toNat : Nat) : Int) == 45) = false := by rw [beq_eq_false_iff_ne]; omega
                have c43 : (((s[m + 1].toNat : Nat) : Int) == 43) = false := by rw [beq_eq_false_iff_ne]; omega
                have K : Hid (decide (s[m + 1].toNat = 45 ∨ s[m + 1].toNat = 43) = false) := decide_eq_false (fun h => h.elim k1 k2)
                clear k1 k2
                go_wp2_with fail
                go_meet
                case rel => exact ⟨by rw [K.out], rfl⟩
          case rest =>
            obtain ⟨rfl, rfl⟩ := hcut
            have HF : Hid ((decide (s[m + 1].toNat = 45 ∨ s[m + 1].toNat = 43) = true ∧ f = m + 2) ∨ (decide (s[m + 1].toNat = 45 ∨ s[m + 1].toNat = 43) = false ∧ f = m + 1)) := by
              rcases Q6.out with ⟨r1, r2, r3⟩ | ⟨r1, r2, r3⟩ | ⟨r1, r2, r3, r4⟩
              · exact .inl ⟨decide_eq_true (.inl r1), r2⟩
              · exact .inl ⟨decide_eq_true (.inr r1), r2⟩
              · exact .inr ⟨decide_eq_false (fun h => h.elim r1 r2), r3⟩
            generalize decide (s[m + 1].toNat = 45 ∨ s[m + 1].toNat = 43) = G at HF ⊢
            go_upto_if 64 with fail
            go_cut [10] from 14 (fun s10 wx => s10 = .int .i64 (f : Int) ∧ wx = wc)
            case first =>
              rcases HF.out with ⟨hG, hf⟩ | ⟨hG, hf⟩
              · have F2 := Lib.hid hf
                subst hG
                clear hf
                go_wp2_with fail
                go_meet
                case rel => exact ⟨by rw [F2.out]; congr 1, rfl⟩
              · have F2 := Lib.hid hf
                subst hG
                clear hf
                go_wp2_with fail
                go_meet
                case rel => exact ⟨by rw [F2.out]; congr 1, rfl⟩
            case rest =>
              obtain ⟨rfl, rfl⟩ := hcut
              go_wp2_with fail
              go_loop [10, 11] (fun kv vv => ∃ q v : Nat, kv = .int .i64 (q : Int) ∧ vv = .int .i64 (v : Int) ∧ valOf 10 v (rest s q) = EV ∧ q ≤ s.size ∧ v ≤ 1000000000 ∧ (rest s q).all (isD 10) = true) (fun kv _ => s.size - (intOf kv).toNat)
              case atStart => exact ⟨f, 0, rfl, rfl, Q5.out, q3, by omega, Q4.out⟩
              case round =>
                obtain ⟨q, v, rfl, rfl, hq, hqs, hv, ha⟩ := hrel
                have HQ := Lib.hid hq
                have HA := Lib.hid ha
                clear hq ha
                by_cases hlq : q < s.size
                · have hcons := rest_cons s q hlq
                  have hh := HA.out
                  have hq := HQ.out
                  rw [hcons, List.all_cons, Bool.and_eq_true] at hh
                  rw [hcons, valOf] at hq
                  have HTl : Hid ((rest s (q + 1)).all (isD 10) = true) := hh.2
                  obtain ⟨d1, d2, d3⟩ := dg_ten' s[q] hh.1
                  have hdn : (dg 10 s[q]).toNat = s[q].toNat - 48 := by omega
                  rw [hdn] at hq
                  obtain ⟨v2, hv2⟩ : ∃ v2, v * 10 + (s[q].toNat - 48) = v2 := ⟨_, rfl⟩
                  rw [hv2] at hq
                  have HQ2 := Lib.hid hq
                  have hvi : ((v : Int) * 10 + (s[q].toNat : Int) - 48) = (v2 : Int) := by omega
                  clear hcons hh hq d1 hdn hv2
                  by_cases hbig : 1000000000 < v2
                  · have EB : Hid (1000000000 < EV) := by
                      have := valOf_ge 10 (by omega) (rest s (q + 1)) v2
                      rw [HQ2.out] at this
                      unfold Hid
                      omega
                    have hb1 : decide (1000000000 < (v2 : Int)) = true := decide_eq_true (by omega)
                    have AN := Lib.hid (RL.out EB.out)
                    go_wp2_with fail
                    go_ret3
                    rw [AN.out]
                    exact ⟨rfl, rfl⟩
                  · have hb1 : decide (1000000000 < (v2 : Int)) = false := decide_eq_false (by omega)
                    go_wp2_with fail
                    go_round
                    case rel => exact ⟨q + 1, v2, by go_num, rfl, HQ2.out, by omega, by omega, HTl.out⟩
                    case measure => simp [intOf]; omega
                · have hq := HQ.out
                  rw [rest_nil s q (by omega)] at hq
                  have HE : Hid (v = EV) := hq
                  clear hq
                  have p1 : -1000000000 ≤ sg * (v : Int) ∧ sg * (v : Int) ≤ 1000000000 := by rcases HSG.out with h | h <;> rw [h] <;> omega
                  have p2 := p1.1
                  have p3 := p1.2
                  have x1 := HX0.out.1
                  have x2 := HX0.out.2
                  clear p1
                  go_wp2_with fail
                  go_meet
                  case rel => exact ⟨by rw [← HE.out], rfl, by rw [← HE.out]; exact hv⟩
    case rest =>
      obtain ⟨rfl, rfl, hEV⟩ := hcut
      have D := Lib.hid (C4.out hEV)
      have AN := Lib.hid (RO.out hEV)
      clear hEV
      go_wp2_with fail
      refine (C3.out _).mono ?_
      rintro e w1 ⟨rfl, rfl⟩
      go_wp2_with fail
      refine (D.out _).mono ?_
      rintro e w1 ⟨rfl, rfl⟩
      go_wp2_with fail
      go_ret3
      rw [AN.out]
      exact ⟨rfl, rfl⟩
theorem refFloat_any (s : ByteArray) (hs : s.size ≤ 1125899906842624) (w : World) :
    Calls Tryd.prog 19 #[.string s] w fun e w' => e = .returned (.tuple #[.string ⟨(floatS s.data.toList).1.toArray⟩, .int .i64 (floatS s.data.toList).2.1, .int .i64 (floatS s.data.toList).2.2]) ∧ w = w' := by
  have c0 := fun W => refwhole_any s 12 (.inr rfl) hs W
  unfold floatS
  by_cases h : (wholeL s.data.toList).kind = 12
  · rw [if_pos h]
    rw [decide_eq_true h] at c0
    by_cases hl : 1000 < s.size
    · rw [← Lib.size_eq, if_pos (.inl hl)]
      exact rflt_long s hl c0 w
    · have hL := Lib.size_eq s
      obtain ⟨p, m, e1, e2, h1, h2, h3, h4, h5, h6⟩ := float_parts s.data.toList h
      have hfl := frac_len s.data.toList h
      rw [e1, e2] at hfl
      have hbp := bt_in s p (by omega)
      have hall : allL s.data.toList = s.data.toList.take p ++ (s.data.toList.drop (p + 1)).take (m - p - 1) := by
        unfold allL fracL
        rw [e1, e2]
      have hane : allL s.data.toList ≠ [] := by
        rw [hall]
        intro h9
        have := congrArg List.length h9
        rw [List.length_append, List.length_take, List.length_nil] at this
        omega
      have hA : ∃ A : ByteArray, ∃ x0 : Int, A.data.toList = allL s.data.toList ∧ x0 = -((fracL s.data.toList).length : Int) ∧ ((s[p].toNat = 46 ∧ p + 1 ≤ m ∧ A = s.extract 0 p ++ s.extract (p + 1) m ∧ x0 = (p : Int) + 1 - (m : Int)) ∨ (s[p].toNat ≠ 46 ∧ m = p ∧ A = s.extract 0 p ∧ x0 = 0)) := by
        rcases h5 with ⟨k1, k2, k3⟩ | ⟨k1, k2⟩
        · refine ⟨s.extract 0 p ++ s.extract (p + 1) m, (p : Int) + 1 - (m : Int), ?_, by rw [hfl.1]; omega, .inl ⟨by omega, by omega, rfl, rfl⟩⟩
          rw [Go.Joins.data_append, Lib.extract_data, Lib.extract_data, List.drop_zero, Nat.sub_zero, hall, show m - (p + 1) = m - p - 1 by omega]
        · refine ⟨s.extract 0 p, 0, ?_, by rw [hfl.1]; omega, .inr ⟨by omega, k2, rfl, rfl⟩⟩
          rw [Lib.extract_data, List.drop_zero, Nat.sub_zero, hall, show m - p - 1 = 0 by omega, List.take_zero, List.append_nil]
      obtain ⟨A, x0, hA1, hA2, hA3⟩ := hA
      have hAs : A.size ≤ 2000 := by
        rw [Lib.size_eq, hA1]
        have := all_len s.data.toList
        omega
      have hA0 : 0 < A.size := by
        rw [Lib.size_eq, hA1]
        exact List.length_pos_iff.2 hane
      obtain ⟨EV, hEV⟩ : ∃ EV, expV s.data.toList = EV := ⟨_, rfl⟩
      obtain ⟨f, hf⟩ : ∃ f, expF s.data.toList m = f := ⟨_, rfl⟩
      obtain ⟨sg, hsg⟩ : ∃ sg : Int, (if bt s.data.toList (m + 1) = 45 then (-1 : Int) else 1) = sg := ⟨_, rfl⟩
      have hs1 : sg = 1 ∨ sg = -1 := by
        rw [← hsg]
        split
        · exact .inr rfl
        · exact .inl rfl
      have hEI : expI s.data.toList = sg * (EV : Int) := by
        unfold expI
        rw [e2, hEV, ← hsg]
        split <;> omega
      have h6' : (m = s.size ∧ EV = 0) ∨ (m < s.size ∧ ∃ h : m + 1 < s.size, f ≤ s.size ∧ (rest s f).all (isD 10) = true ∧ valOf 10 0 (rest s f) = EV ∧
          ((s[m + 1].toNat = 45 ∧ f = m + 2 ∧ sg = -1) ∨ (s[m + 1].toNat = 43 ∧ f = m + 2 ∧ sg = 1) ∨ (s[m + 1].toNat ≠ 45 ∧ s[m + 1].toNat ≠ 43 ∧ f = m + 1 ∧ sg = 1))) := by
        by_cases hm : m < s.size
        · rcases h6 with h6 | ⟨k1, k2, k3, k4⟩
          · omega
          have hX := expX_digits s.data.toList h (by rw [e2, ← hL]; exact hm)
          have hg := expF_ge s.data.toList m
          have hm1 : m + 1 < s.size := by omega
          have hXr : expX s.data.toList = rest s f := by
            unfold expX
            rw [e2, hf]
            rfl
          have hb1 := bt_in s (m + 1) hm1
          refine .inr ⟨hm, hm1, by omega, by rw [← hXr]; exact hX.2, ?_, ?_⟩
          · rw [← hXr, ← hEV]
            unfold expV
            rw [e2, if_pos k1]
          · unfold expF at hf
            rw [hb1] at hf hsg
            by_cases q1 : s[m + 1].toNat = 45
            · rw [if_pos (.inr q1)] at hf
              rw [if_pos q1] at hsg
              exact .inl ⟨q1, hf.symm, hsg.symm⟩
            · rw [if_neg q1] at hsg
              by_cases q2 : s[m + 1].toNat = 43
              · rw [if_pos (.inl q2)] at hf
                exact .inr (.inl ⟨q2, hf.symm, hsg.symm⟩)
              · rw [if_neg (fun h => h.elim q2 q1)] at hf
                exact .inr (.inr ⟨q1, q2, hf.symm, hsg.symm⟩)
        · refine .inl ⟨by omega, ?_⟩
          rw [← hEV]
          unfold expV
          rw [e2, if_neg (by omega)]
      have c1 := fun W => refdigits_any s 0 10 hs W
      rw [Nat.zero_add, rest_zero, h1] at c1
      have c2 : s[p].toNat = 46 → ∀ W, Calls Tryd.prog 23 #[.string s, .int .i64 ((p : Int) + 1), .int .i64 10] W fun e' w' => e' = .returned (.int .i64 (m : Int)) ∧ W = w' := fun h46 W => by
        have := refdigits_any s (p + 1) 10 hs W
        rcases h5 with ⟨k1, k2, k3⟩ | ⟨k1, k2⟩
        · rw [show p + 1 + run 10 (rest s (p + 1)) = m from k2.symm] at this
          exact this
        · omega
      have c3 := fun W => refbare_any A (by omega) hA0 W
      rw [hA1] at c3
      have hBl : (bareL (allL s.data.toList)).length ≤ 2000 := by
        have h8 := strip_len (allL s.data.toList)
        have h9 := Lib.size_eq A
        rw [hA1] at h9
        rw [bare_strip _ hane]
        split
        · simp
        · omega
      have hxb : -1000 ≤ x0 ∧ x0 ≤ 0 := by
        rw [hA2]
        omega
      have c4 : EV ≤ 1000000000 → ∀ W, Calls Tryd.prog 35 #[.string ⟨(bareL (allL s.data.toList)).toArray⟩, .int .i64 (x0 + sg * (EV : Int))] W fun e' w' => e' = .returned (.tuple #[.string ⟨(shortS (allL s.data.toList) (x0 + sg * (EV : Int))).1.toArray⟩, .int .i64 (shortS (allL s.data.toList) (x0 + sg * (EV : Int))).2]) ∧ W = w' := fun he W => by
        have := refShort_any ⟨(bareL (allL s.data.toList)).toArray⟩ (x0 + sg * (EV : Int)) (by rw [size_of]; omega) (bare_bare _ hane) (by rcases hs1 with h | h <;> rw [h] <;> omega) W
        rw [show (⟨(bareL (allL s.data.toList)).toArray⟩ : ByteArray).data.toList = bareL (allL s.data.toList) from rfl, short_bare _ hane] at this
        exact this
      have hex : expI s.data.toList - ((fracL s.data.toList).length : Int) = x0 + sg * (EV : Int) := by
        rw [hEI, hA2]
        omega
      rw [← Lib.size_eq, hex, hEV]
      refine rflt_ok s p m A _ _ x0 sg _ f EV _ (by omega) (by omega) (by omega) hxb hs1 hA3 h6' ?_ ?_ c0 c1 c2 c3 c4 w
      · intro h9
        rw [if_pos (.inr h9)]
      · intro h9
        rw [if_neg (by omega)]
  · rw [if_neg h]
    rw [decide_eq_false h] at c0
    exact rflt_none s c0 w
end Go.Proofs.YtiifjegjmhbhkaaDoor.Num
