/-
  The walk of the statement QuoteMeans. Conditions: the string has at most 2^20 bytes; the library's table of powers of ten and the program's list of names stand.
-/
import Derived.Test.YtdppfhgihoibnaaDoorQtLaw
namespace Go.Proofs.YtdppfhgihoibnaaDoor.Qt
open Go.RowKit Gly
set_option linter.unusedSimpArgs false
set_option linter.unusedVariables false

theorem Txt.narrow_le {L r : List UInt8} {ps : List Pc} (h : Txt L ps r) : (Qt.flat (ps.map narrow)).length ≤ (Qt.flat ps).length := by
  induction h with
  | last r => exact Nat.le_refl _
  | @more L r p ps h0 h1 h2 ih =>
    have := narrow_len L p h1
    rw [List.map_cons, flat_cons, flat_cons, List.length_append, List.length_append]
    omega
theorem plain_len (L : List UInt8) : (plainL L).length ≤ L.length := by
  unfold plainL
  by_cases h : wholeL L = 0
  · rw [if_pos h]
    obtain ⟨h1, h2⟩ := whole_form L h
    obtain ⟨hq, h0, hl⟩ := whole_ok L h
    have h3 : (flat ((readL L).ps.map narrow)).length ≤ (flat (readL L).ps).length := by
      rcases read_ok L hq h0 with ⟨q, r, e, h1, h2⟩ | ⟨q, p, r, h3, h1, e, h2, h4, h5, h6⟩
      · exact h1.narrow_le
      · rw [h3]
        have : narrow p = p := by unfold narrow; rw [if_neg (by omega)]
        rw [List.map_cons, List.map_nil, this]
        exact Nat.le_refl _
    rw [List.length_append, List.length_append, List.length_take]
    omega
  · rw [if_neg h]
    exact Nat.zero_le _
theorem means_bad (s : ByteArray) (x : Int) (hx : (x != 0) = true) (w : World) (ht : Tab w)
    (C1 : Hid (∀ W, Nam W → Calls Tryd.prog 13 #[.string s] W fun e w' => ∃ v', e = .returned (.tuple #[v', .int .i64 x]) ∧ Below W.heap.size W w'))
    (C2 : Hid (∀ W, Nam W → Calls Tryd.prog 18 #[.string s] W fun e w' => e = .returned (.tuple #[.string ⟨#[]⟩, .int .i64 x]) ∧ Below W.heap.size W w')) :
    Calls Tryd.prog 8 #[.string s] w fun e w' => e = .returned (.bool true) ∧ Below w.heap.size w w' := by
  have A := Lib.hid (awake_any w ht)
  have HT := Lib.hid ht
  clear ht
  go_enter Tryd.func8, Tryd.ntmps8
  go_wp2_with fail
  refine A.out.mono ?_
  rintro e w1 ⟨rfl, hb1⟩
  have HB1 := Lib.hid hb1
  clear hb1
  go_wp2_with fail
  refine (C1.out _ (HT.out.2.below HB1.out (Nat.le_refl _))).mono ?_
  rintro e w2 ⟨v', rfl, hb2⟩
  have HB2 := Lib.hid (HB1.out.trans (hb2.mono HB1.out.size))
  clear hb2
  go_wp2_with fail
  refine (C2.out _ (HT.out.2.below HB2.out (Nat.le_refl _))).mono ?_
  rintro e w3 ⟨rfl, hb3⟩
  have HB3 := Lib.hid (HB2.out.trans (hb3.mono HB2.out.size))
  clear hb3
  go_wp2_with fail
  go_ret
  exact ⟨rfl, HB3.out⟩
theorem means_good (s t : ByteArray) (zs : List Int) (ht32 : ∀ (k : Nat) (h : k < t.size), 32 ≤ (t[k]'h).toNat) (hts : t.size ≤ 1048576) (hn : zs.length ≤ 140737488355328) (w : World) (ht : Tab w)
    (C1 : Hid (∀ W, Nam W → Calls Tryd.prog 13 #[.string s] W fun e w' => ∃ v', e = .returned (.tuple #[v', .int .i64 0]) ∧ ArgI w' v' zs ∧ Below W.heap.size W w'))
    (C2 : Hid (∀ W, Nam W → Calls Tryd.prog 18 #[.string s] W fun e w' => e = .returned (.tuple #[.string t, .int .i64 0]) ∧ Below W.heap.size W w'))
    (C3 : Hid (∀ W, Nam W → Calls Tryd.prog 13 #[.string t] W fun e w' => ∃ v', e = .returned (.tuple #[v', .int .i64 0]) ∧ ArgI w' v' zs ∧ Below W.heap.size W w'))
    (C4 : Hid (∀ W, Nam W → Calls Tryd.prog 18 #[.string t] W fun e w' => e = .returned (.tuple #[.string t, .int .i64 0]) ∧ Below W.heap.size W w')) :
    Calls Tryd.prog 8 #[.string s] w fun e w' => e = .returned (.bool true) ∧ Below w.heap.size w w' := by
  have A := Lib.hid (awake_any w ht)
  have HT := Lib.hid ht
  have T32 := Lib.hid ht32
  have ett : (t.toList == t.toList) = true := beq_self_eq_true _
  clear ht ht32
  go_enter Tryd.func8, Tryd.ntmps8
  go_wp2_with fail
  refine A.out.mono ?_
  rintro e w1 ⟨rfl, hb1⟩
  have HB1 := Lib.hid hb1
  clear hb1
  go_wp2_with fail
  refine (C1.out _ (HT.out.2.below HB1.out (Nat.le_refl _))).mono ?_
  rintro e w2 ⟨v', rfl, a2, hb2⟩
  have HB2 := Lib.hid (HB1.out.trans (hb2.mono HB1.out.size))
  have A2 := Lib.hid a2
  clear hb2 a2
  go_wp2_with fail
  refine (C2.out _ (HT.out.2.below HB2.out (Nat.le_refl _))).mono ?_
  rintro e w3 ⟨rfl, hb3⟩
  have HB3 := Lib.hid (HB2.out.trans (hb3.mono HB2.out.size))
  have A3 := Lib.hid (A2.out.below hb3)
  clear hb3 A2
  go_wp2_with fail
  go_loop [8] (fun iv => ∃ k : Nat, iv = .int .i64 (k : Int) ∧ k ≤ t.size) (fun iv => t.size - (intOf iv).toNat)
  case atStart => exact ⟨0, rfl, Nat.zero_le _⟩
  case round =>
    obtain ⟨k, rfl, hk0⟩ := hrel
    by_cases hk : k < t.size
    · have h32 := T32.out k hk
      have hlt := (t[k]).toNat_lt
      have y0 : (((t[k].toNat : Nat) : Int) == 9) = false := by rw [beq_eq_false_iff_ne]; omega
      have y1 : (((t[k].toNat : Nat) : Int) == 10) = false := by rw [beq_eq_false_iff_ne]; omega
      have y2 : (((t[k].toNat : Nat) : Int) == 12) = false := by rw [beq_eq_false_iff_ne]; omega
      have y3 : (((t[k].toNat : Nat) : Int) == 13) = false := by rw [beq_eq_false_iff_ne]; omega
      clear h32 hlt
      go_wp2_with fail
      go_round
      case rel => exact ⟨k + 1, by go_num, by omega⟩
      case measure => simp [intOf]; omega
    · obtain rfl : k = t.size := by omega
      go_wp2_with fail
      refine (C3.out _ (HT.out.2.below HB3.out (Nat.le_refl _))).mono ?_
      rintro e w4 ⟨v4, rfl, a4, hb4⟩
      have HB4 := Lib.hid (HB3.out.trans (hb4.mono HB3.out.size))
      have B4 := Lib.hid (A3.out.below hb4)
      have A4 := Lib.hid a4
      clear hb4 a4
      go_wp2_with fail
      refine (C4.out _ (HT.out.2.below HB4.out (Nat.le_refl _))).mono ?_
      rintro e w5 ⟨rfl, hb5⟩
      have HB5 := Lib.hid (HB4.out.trans (hb5.mono HB4.out.size))
      have A5 := Lib.hid (A4.out.below hb5)
      have B5 := Lib.hid (B4.out.below hb5)
      clear hb5
      go_wp2_with fail
      have S := Same_any v' v4 zs zs hn w5 B5.out A5.out
      rw [decide_eq_true rfl] at S
      refine S.mono ?_
      rintro e w6 ⟨rfl, hb6⟩
      have HB6 := Lib.hid (HB5.out.trans (hb6.mono HB5.out.size))
      clear hb6 S
      go_wp2_with fail
      go_ret
      exact ⟨rfl, HB6.out⟩
theorem means_walk (s : ByteArray) (hs : s.size ≤ 1048576) (w : World) (ht : Tab w) :
    Calls Tryd.prog 8 #[.string s] w fun e w' => e = .returned (.bool true) ∧ Below w.heap.size w w' := by
  have hrl := rest_len s 0
  have hcr := count_read (rest s 0)
  rw [hrl] at hcr
  have c1 : ∀ W, Nam W → _ := fun W h => Runes_any s (by omega) (by omega) W h
  have c2 : ∀ W, Nam W → _ := fun W h => Plain_any s (by omega) W h
  by_cases h : wholeL (rest s 0) = 0
  · obtain ⟨p1, p2, p3, p4⟩ := plain_means _ h
    have hpl := plain_len (rest s 0)
    rw [hrl] at hpl
    rw [h] at c2
    obtain ⟨t, ht0⟩ : ∃ t : ByteArray, (⟨(plainL (rest s 0)).toArray⟩ : ByteArray) = t := ⟨_, rfl⟩
    have htl : t.data.toList = plainL (rest s 0) := by rw [← ht0]
    have hr0 : rest t 0 = plainL (rest s 0) := htl
    have hts : t.size = (plainL (rest s 0)).length := by rw [Lib.size_eq, htl]
    have hcr2 := count_read (rest t 0)
    rw [rest_len] at hcr2
    have hzl : (runesL (rest s 0)).length ≤ 1048577 := by
      unfold runesL
      rw [if_pos h]
      omega
    rw [ht0] at c2
    refine means_good s t ((runesL (rest s 0)).map fun (x : Nat) => (x : Int)) ?_ (by omega) (by rw [List.length_map]; omega) w ht ?_ c2 ?_ ?_
    · intro k hk
      refine p4 _ ?_
      rw [← htl]
      exact List.getElem_mem (by rw [← Lib.size_eq]; exact hk)
    · intro W hW
      refine (c1 W hW).mono ?_
      rintro e w' ⟨v', rfl, h1, h2⟩
      rw [h]
      exact ⟨v', rfl, h1.arg, h2⟩
    · intro W hW
      refine (Runes_any t (by omega) (by omega) W hW).mono ?_
      rintro e w' ⟨v', rfl, h1, h2⟩
      rw [hr0, p2] at h1
      rw [hr0, p1]
      exact ⟨v', rfl, h1.arg, h2⟩
    · intro W hW
      have := Plain_any t (by omega) W hW
      rw [hr0, p1, p3, ht0] at this
      exact this
  · have hp : plainL (rest s 0) = [] := by unfold plainL; rw [if_neg h]
    rw [hp] at c2
    refine means_bad s (wholeL (rest s 0)) (bne_iff_ne.2 h) w ht ?_ c2
    intro W hW
    refine (c1 W hW).mono ?_
    rintro e w' ⟨v', rfl, h1, h2⟩
    exact ⟨v', rfl, h2⟩
end Go.Proofs.YtdppfhgihoibnaaDoor.Qt
