/-
  The walk of the statement GlyphJoined: two texts that are UTF-8 are so one behind the other. Condition: each string has at most 2^47 bytes, as every row's input has.
-/
import Derived.Test.YtjfhdapflpmjgaaGlyRun
import Derived.Test.YtjfhdapflpmjgaaGlyChk
namespace Go.Proofs.Ytjfhdapflpmjgaa.Gly
open Go.RowKit
set_option linter.unusedSimpArgs false

/-- A whole encoding reads the same whatever follows. -/
theorem decodeN_longer (n n' b0 b1 b2 b3 c1 c2 c3 : Nat) (hnn : n ≤ n') (good : Lib.decodeN n b0 b1 b2 b3 ≠ (65533, 1)) (e1 : 1 < n → c1 = b1) (e2 : 2 < n → c2 = b2) (e3 : 3 < n → c3 = b3) :
    Lib.decodeN n' b0 c1 c2 c3 = Lib.decodeN n b0 b1 b2 b3 := by
  rcases Lib.decodeN_shape n b0 b1 b2 b3 with ⟨c, e⟩ | ⟨p1, p2, p3, cv, e⟩ | ⟨p1, p2, p3, p4, cv, cs, e⟩ | ⟨p1, p2, p3, p4, p5, cv, cw, e⟩ | e
  · rw [e, Lib.decodeN_ascii _ _ _ _ _ c]
  · rw [e]
    obtain rfl := e1 (by omega)
    unfold Lib.decodeN
    repeat' split
    all_goals first | (exfalso; omega) | rfl
  · rw [e]
    obtain rfl := e1 (by omega)
    obtain rfl := e2 (by omega)
    unfold Lib.decodeN
    repeat' split
    all_goals first | (exfalso; omega) | rfl
  · rw [e]
    obtain rfl := e1 (by omega)
    obtain rfl := e2 (by omega)
    obtain rfl := e3 (by omega)
    unfold Lib.decodeN
    repeat' split
    all_goals first | (exfalso; omega) | rfl
  · exact absurd e good
theorem cat_toList (a b : ByteArray) : (a ++ b).data.toList = a.data.toList ++ b.data.toList := by simp
theorem cat_size (a b : ByteArray) : (a ++ b).size = a.size + b.size := by
  rw [Lib.size_eq, cat_toList, List.length_append, ← Lib.size_eq, ← Lib.size_eq]
theorem getD_left (l m : List UInt8) (i : Nat) (h : i < l.length) : (l ++ m).getD i 0 = l.getD i 0 := by
  simp [List.getD, List.getElem?_append_left h]
theorem decode_cat_left (s t : ByteArray) (n : Nat) (h : n < s.size) (good : badAt s n = false) : Utf8.decode (s ++ t) n = Utf8.decode s n := by
  have hl : s.size = s.data.toList.length := Lib.size_eq s
  have hg : Utf8.decode s n ≠ (65533, 1) := by
    intro e
    unfold badAt at good
    rw [e] at good
    simp at good
  rw [Lib.decode_N] at hg
  rw [Lib.decode_N, Lib.decode_N s n, cat_toList]
  rw [getD_left _ _ n (by omega)]
  exact decodeN_longer _ _ _ _ _ _ _ _ _ (by rw [List.length_append]; omega) hg (fun q => by rw [getD_left _ _ _ (by omega)]) (fun q => by rw [getD_left _ _ _ (by omega)]) (fun q => by rw [getD_left _ _ _ (by omega)])
theorem decode_cat_right (s t : ByteArray) (n : Nat) : Utf8.decode (s ++ t) (s.size + n) = Utf8.decode t n := by
  rw [← Lib.decodeL_drop, ← Lib.decodeL_drop, cat_toList, Lib.size_eq, List.drop_append, List.drop_eq_nil_of_le (by omega), List.nil_append, Nat.add_sub_cancel_left]
theorem badAt_right (s t : ByteArray) (n : Nat) : badAt (s ++ t) (s.size + n) = badAt t n := by unfold badAt; rw [decode_cat_right]
theorem firstBad_right (s t : ByteArray) : ∀ (f n : Nat), firstBad (s ++ t) f (s.size + n) = s.size + firstBad t f n
  | 0, n => by simp only [firstBad]; exact cat_size s t
  | f + 1, n => by
    unfold firstBad
    rw [badAt_right, cat_size, decode_cat_right]
    by_cases h : n < t.size
    · rw [if_pos h, if_pos (by omega)]
      split
      · rfl
      · rw [Nat.add_assoc, firstBad_right s t f]
    · rw [if_neg h, if_neg (by omega)]
theorem firstBad_cat (s t : ByteArray) : ∀ (f n : Nat), s.size ≤ n + f → n ≤ s.size → firstBad s f n = s.size → firstBad (s ++ t) (f + t.size) n = s.size + firstBad t t.size 0
  | 0, n, hf, hn, _ => by
    obtain rfl : n = s.size := by omega
    have := firstBad_right s t t.size 0
    rw [Nat.add_zero s.size] at this
    rw [Nat.zero_add]
    exact this
  | f + 1, n, hf, hn, hb => by
    by_cases h : n < s.size
    · rw [firstBad, if_pos h] at hb
      by_cases hbad : badAt s n = true
      · rw [if_pos hbad] at hb
        omega
      · have hgood : badAt s n = false := by simpa using hbad
        rw [hgood] at hb
        have hd := decode_cat_left s t n h hgood
        have hbc : badAt (s ++ t) n = false := by unfold badAt; rw [hd]; exact hgood
        have hw := width_ge s n
        have hx := width_fits s n h
        rw [show f + 1 + t.size = (f + t.size) + 1 from by omega, firstBad, if_pos (by rw [cat_size]; omega), hbc, hd]
        exact firstBad_cat s t f _ (by omega) (by omega) (by simpa using hb)
    · obtain rfl : n = s.size := by omega
      have := firstBad_right s t (f + 1 + t.size) 0
      rw [Nat.add_zero s.size] at this
      rw [this, firstBad_fuel t (f + 1 + t.size) t.size 0 (by omega) (by omega)]
theorem check_cat (s t : ByteArray) (h : checkN s = s.size) : checkN (s ++ t) = s.size + checkN t := by
  unfold checkN at *
  rw [cat_size]
  exact firstBad_cat s t s.size 0 (by omega) (by omega) h
theorem checkE_cat (s t : ByteArray) (h : checkN s = s.size) : checkE (s ++ t) = checkE t := by
  unfold checkE
  rw [check_cat s t h, cat_size]
  by_cases q : checkN t < t.size
  · rw [if_pos q, if_pos (by omega)]
  · rw [if_neg q, if_neg (by omega)]

theorem joined_walk (a0 a1 : ByteArray) (w0 : a0.size ≤ 140737488351232) (w1 : a1.size ≤ 140737488351232) (w : World) :
    Calls Try.prog 8 #[.string a0, .string a1] w fun e w' => e = .returned (.bool true) ∧ Below w.heap.size w w' := by
  have hz := cat_size a0 a1
  have hz2 : (a0 ++ a1).size ≤ 1125899906842624 := by omega
  have HZ := Lib.hid hz2
  clear hz hz2
  have hle := firstBad_le a0 a0.size 0
  have hle2 := firstBad_le a1 a1.size 0
  change checkN a0 ≤ a0.size at hle
  change checkN a1 ≤ a1.size at hle2
  by_cases hc : checkN a0 < a0.size
  · have he : Hid (checkE a0 = 10) := by unfold Hid checkE; rw [if_pos hc]
    go_enter Try.func8, Try.ntmps8
    go_wp2_with fail
    refine (awake_any _).mono ?_
    rintro e w2 ⟨rfl, hb2⟩
    have HB2 := Lib.hid hb2
    clear hb2
    go_wp2_with fail
    refine (check_any a0 (by omega) _).mono ?_
    rintro e w3 ⟨rfl, hb3⟩
    have HB3 := Lib.hid hb3
    clear hb3
    rw [he.out]
    go_wp2_with fail
    refine (check_any a1 (by omega) _).mono ?_
    rintro e w4 ⟨rfl, hb4⟩
    have HB4 := Lib.hid hb4
    clear hb4
    go_wp2_with fail
    refine (check_any (a0 ++ a1) HZ.out _).mono ?_
    rintro e w5 ⟨rfl, hb5⟩
    have HB5 := Lib.hid hb5
    clear hb5
    go_wp2_with fail
    go_ret
    exact ⟨by simp [hc], HB2.out.trans ((HB3.out.trans ((HB4.out.trans (HB5.out.mono HB4.out.size)).mono HB3.out.size)).mono HB2.out.size)⟩
  · have hq : checkN a0 = a0.size := by omega
    have he : Hid (checkE a0 = 0) := by unfold Hid checkE; rw [if_neg hc]
    have e1 : Hid (checkN a0 = a0.size) := hq
    have e2 : Hid (checkN (a0 ++ a1) = a0.size + checkN a1) := check_cat a0 a1 hq
    have e3 : Hid (checkE (a0 ++ a1) = checkE a1) := checkE_cat a0 a1 hq
    clear hc hq hle
    go_enter Try.func8, Try.ntmps8
    go_wp2_with fail
    refine (awake_any _).mono ?_
    rintro e w2 ⟨rfl, hb2⟩
    have HB2 := Lib.hid hb2
    clear hb2
    go_wp2_with fail
    refine (check_any a0 (by omega) _).mono ?_
    rintro e w3 ⟨rfl, hb3⟩
    have HB3 := Lib.hid hb3
    clear hb3
    rw [he.out, e1.out]
    go_wp2_with fail
    refine (check_any a1 (by omega) _).mono ?_
    rintro e w4 ⟨rfl, hb4⟩
    have HB4 := Lib.hid hb4
    clear hb4
    go_wp2_with fail
    refine (check_any (a0 ++ a1) HZ.out _).mono ?_
    rintro e w5 ⟨rfl, hb5⟩
    have HB5 := Lib.hid hb5
    clear hb5
    rw [e2.out, e3.out]
    go_wp2_with fail
    go_ret
    exact ⟨by simp, HB2.out.trans ((HB3.out.trans ((HB4.out.trans (HB5.out.mono HB4.out.size)).mono HB3.out.size)).mono HB2.out.size)⟩
end Go.Proofs.Ytjfhdapflpmjgaa.Gly
