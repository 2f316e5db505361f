/-
  The walk of the statement NoteWhole. Conditions: strings of lengths that a program can hold; some variable of the library's own holds some number.
-/
import Derived.Test.YtcbjcgbfdniieaaDoorNotLaw
namespace Go.Proofs.YtcbjcgbfdniieaaDoor.Not
open Go.RowKit Gly
set_option linter.unusedSimpArgs false
set_option linter.unusedVariables false

theorem scan_none (s : ByteArray) (i : Int) (h : (scanI s i).1 = 0 ∨ (scanI s i).2 ≠ 0) : (scanI s i).1 = 0 := by
  rcases h with h | h
  · exact h
  · unfold scanI at *
    split at h
    · exact absurd rfl h
    · rename_i hc
      rw [if_neg hc]
      dsimp only at h ⊢
      rw [if_pos (scanN_ok _ (by omega))]
theorem scan_some (s : ByteArray) (i : Int) (h : ¬ ((scanI s i).1 = 0 ∨ (scanI s i).2 ≠ 0)) :
    ∃ n m : Nat, i = (n : Int) ∧ n < s.size ∧ 0 < m ∧ n + m ≤ s.size ∧ (scanN (rest s n)).1 = m ∧ (scanI s i).1 = ((n + m : Nat) : Int) ∧ (scanI s i).2 = 0 := by
  have h1 : (scanI s i).1 ≠ 0 := fun e => h (.inl e)
  have h2 : (scanI s i).2 = 0 := by
    by_cases e : (scanI s i).2 = 0
    · exact e
    · exact absurd (.inr e) h
  by_cases hc : i < 0 ∨ (s.size : Int) ≤ i
  · rw [scanI_out s i hc] at h1
    exact absurd rfl h1
  · obtain ⟨n, rfl⟩ := Int.eq_ofNat_of_zero_le (a := i) (by omega)
    obtain ⟨⟨m, x⟩, hq⟩ : ∃ p, scanN (rest s n) = p := ⟨_, rfl⟩
    have hi := scanI_in s n (by omega) m x hq
    have hle := scanN_le (rest s n)
    rw [hq, rest_len] at hle
    dsimp only at hle
    rw [hi] at h1
    have hm : m ≠ 0 := by
      intro e
      rw [if_pos e] at h1
      exact h1 rfl
    refine ⟨n, m, rfl, by omega, by omega, by omega, by rw [hq], ?_, h2⟩
    rw [hi, if_neg hm]

set_option maxRecDepth 100000 in
set_option maxHeartbeats 4000000 in
theorem whole_walk (a0 : ByteArray) (a1 : Int) (a2 : ByteArray) (z0 : a0.size ≤ 140737488351232) (w1 : (Lit.int .i64 a1).wf = true) (z2 : a2.size ≤ 140737488351232) (w : World) (hm : Mx w) :
    Calls Tryd.prog 10 #[.string a0, .int .i64 a1, .string a2] w fun e w' => e = .returned (.bool true) ∧ Below w.heap.size w w' := by
  have HM := Lib.hid hm
  have c1 := fun W => Scan_any a0 a1 (by omega) W
  by_cases h : (scanI a0 a1).1 = 0 ∨ (scanI a0 a1).2 ≠ 0
  · have h0 := scan_none a0 a1 h
    rw [h0] at c1
    generalize (scanI a0 a1).2 = x at *
    have C1 := Lib.hid c1
    clear c1 hm w1 h h0
    go_enter Tryd.func10, Tryd.ntmps10
    go_wp2_with fail
    refine (awake_any _ HM.out).mono ?_
    rintro e w1 ⟨rfl, hb⟩
    have HB1 := Lib.hid hb
    clear hb
    go_wp2_with fail
    refine (C1.out _).mono ?_
    rintro e w2 ⟨rfl, hb⟩
    have HB2 := Lib.hid (below_trans HB1.out hb)
    clear hb
    cases hx : (x != 0) with
    | true =>
      go_wp2_with fail
      go_ret
      exact ⟨by first | rfl | simp, HB2.out⟩
    | false =>
      go_wp2_with fail
      go_ret
      exact ⟨by first | rfl | simp, HB2.out⟩
  · obtain ⟨n, m, rfl, hn, hm0, hnm, hq, h1, h2⟩ := scan_some a0 a1 h
    rw [h1, h2] at c1
    obtain ⟨hk, hs⟩ := scan_whole (rest a0 n) a2.data.toList (by rw [hq]; omega)
    rw [hq] at hk hs
    have hcd : (a0.extract n (n + m)).data.toList = (rest a0 n).take m := piece_rest a0 n m
    obtain ⟨c, hc⟩ : ∃ c, a0.extract n (n + m) = c := ⟨_, rfl⟩
    rw [hc] at hcd
    have hcs : c.size = m := by
      rw [Lib.size_eq, hcd, List.length_take, rest_len]
      omega
    obtain ⟨Z, hZ⟩ : ∃ Z, c ++ a2 = Z := ⟨_, rfl⟩
    have hZd : Z.data.toList = (rest a0 n).take m ++ a2.data.toList := by
      rw [← hZ, ← hcd]
      simp
    have hZs : Z.size = m + a2.size := by
      rw [Lib.size_eq, hZd, List.length_append, ← Lib.size_eq, List.length_take, rest_len]
      omega
    have c2 := fun W => Kind_any c (by omega) W
    rw [hcd] at c2
    have c3 := fun W => Scan_any Z 0 (by omega) W
    have hs2 : kindN ((rest a0 n).take m) = 1 ∨ scanI Z 0 = ((m : Int), 0) := by
      rcases hs with hs | hs
      · exact .inl hs
      · refine .inr ?_
        have := scanI_in Z 0 (by omega) m 0 (by rw [rest_zero, hZd]; exact hs)
        rw [if_neg (by omega), Nat.zero_add] at this
        exact this
    generalize kindN ((rest a0 n).take m) = k at *
    obtain ⟨E, hE⟩ : ∃ E, n + m = E := ⟨_, rfl⟩
    rw [hE] at c1 hc hnm
    have t1 : ((k : Int) != 0) = true := by rw [bne_iff_ne]; omega
    have t2 : ((E : Int) == 0) = false := by rw [beq_eq_false_iff_ne]; omega
    have t3 : decide ((n : Int) < 0) = false := decide_eq_false (by omega)
    have t4 : ¬ E ≤ n := by omega
    have t5 : ¬ a0.size < E := by omega
    have t6 : n ≤ E := by omega
    have t7 : E ≤ a0.size := hnm
    have t8 : ¬ 9223372036854775807 < m + a2.size := by omega
    have C1 := Lib.hid c1
    have C2 := Lib.hid c2
    have C3 := Lib.hid c3
    have HS := Lib.hid hs2
    clear c1 c2 c3 hm w1 h h1 h2 hk hs hs2 hq hcd hZd hE
    by_cases k1 : k = 1
    · subst k1
      generalize (scanI Z 0).1 = y1 at *
      generalize (scanI Z 0).2 = y2 at *
      go_enter Tryd.func10, Tryd.ntmps10
      go_wp2_with fail
      refine (awake_any _ HM.out).mono ?_
      rintro e w1 ⟨rfl, hb⟩
      have HB1 := Lib.hid hb
      clear hb
      go_wp2_with fail
      refine (C1.out _).mono ?_
      rintro e w2 ⟨rfl, hb⟩
      have HB2 := Lib.hid (below_trans HB1.out hb)
      clear hb
      go_wp2_with fail
      refine (C2.out _).mono ?_
      rintro e w3 ⟨rfl, hb⟩
      have HB3 := Lib.hid (below_trans HB2.out hb)
      clear hb
      go_wp2_with fail
      refine (C3.out _).mono ?_
      rintro e w4 ⟨rfl, hb⟩
      have HB4 := Lib.hid (below_trans HB3.out hb)
      clear hb
      go_wp2_with fail
      go_ret
      exact ⟨by first | rfl | simp, HB4.out⟩
    · have t9 : ((k : Int) == 1) = false := by rw [beq_eq_false_iff_ne]; omega
      have e2 : scanI Z 0 = ((m : Int), 0) := by
        rcases HS.out with hh | hh
        · exact absurd hh k1
        · exact hh
      rw [e2] at C3
      clear e2 k1
      go_enter Tryd.func10, Tryd.ntmps10
      go_wp2_with fail
      refine (awake_any _ HM.out).mono ?_
      rintro e w1 ⟨rfl, hb⟩
      have HB1 := Lib.hid hb
      clear hb
      go_wp2_with fail
      refine (C1.out _).mono ?_
      rintro e w2 ⟨rfl, hb⟩
      have HB2 := Lib.hid (below_trans HB1.out hb)
      clear hb
      go_wp2_with fail
      refine (C2.out _).mono ?_
      rintro e w3 ⟨rfl, hb⟩
      have HB3 := Lib.hid (below_trans HB2.out hb)
      clear hb
      go_wp2_with fail
      refine (C3.out _).mono ?_
      rintro e w4 ⟨rfl, hb⟩
      have HB4 := Lib.hid (below_trans HB3.out hb)
      clear hb
      go_wp2_with fail
      go_ret
      exact ⟨by first | rfl | simp, HB4.out⟩
end Go.Proofs.YtcbjcgbfdniieaaDoor.Not
