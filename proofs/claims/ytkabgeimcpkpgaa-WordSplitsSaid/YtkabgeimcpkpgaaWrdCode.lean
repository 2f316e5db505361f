/-
  The contracts of package word's functions, up to the word that begins at a byte, points apart. Condition: the string has at most 2^50 bytes.
-/
import Derived.Test.YtkabgeimcpkpgaaWrdLex
import Derived.Test.YtkabgeimcpkpgaaGlyRunr
import Derived.Lib.Strings
import Derived.Handy
namespace Go.Proofs.Ytkabgeimcpkpgaa.Wrd
open Go.RowKit Gly
set_option linter.unusedSimpArgs false

theorem resOp_any (s : ByteArray) (w : World) :
    Calls Try.prog 53 #[.string s] w fun e w' => e = .returned (.bool (markB s)) ∧ w = w' := by
  go_enter Try.func53, Try.ntmps53
  go_wp2
  all_goals go_ret
  all_goals first
    | (exfalso; simp_all only [Bool.false_eq_true, Bool.true_eq_false]; done)
    | (refine ⟨?_, rfl⟩; simp only [Lib.toList_data] at *; simp only [markB, marksL, List.any_cons, List.any_nil, *, Bool.or_true, Bool.true_or, Bool.false_or, Bool.or_false]; rfl)
theorem resWord_any (s : ByteArray) (w : World) :
    Calls Try.prog 52 #[.string s] w fun e w' => e = .returned (.bool (resB s)) ∧ w = w' := by
  go_enter Try.func52, Try.ntmps52
  go_wp2
  all_goals go_ret
  all_goals first
    | (exfalso; simp_all only [Bool.false_eq_true, Bool.true_eq_false]; done)
    | (refine ⟨?_, rfl⟩; simp only [Lib.toList_data] at *; simp only [resB, wordsL, List.any_cons, List.any_nil, *, Bool.or_true, Bool.true_or, Bool.false_or, Bool.or_false]; rfl)
theorem inName_any (c : Int) (w : World) :
    Calls Try.prog 51 #[.int .i32 c] w fun e w' => e = .returned (.bool (nameB c)) ∧ w = w' := by
  go_enter Try.func51, Try.ntmps51
  go_wp2_with (go_at_call 35; refine (class_any _ _).mono ?_; rintro e w1 ⟨rfl, rfl⟩)
  all_goals go_ret
  all_goals first
    | (exfalso; simp_all only [Bool.false_eq_true, Bool.true_eq_false]; done)
    | (refine ⟨?_, rfl⟩; simp only [nameB, *, Bool.or_true, Bool.true_or, Bool.false_or, Bool.or_false]; rfl)
theorem qualified_any (k : Int) (w : World) :
    Calls Try.prog 40 #[.int .i64 k] w fun e w' => e = .returned (.int .i64 (qual k)) ∧ w = w' := by
  go_enter Try.func40, Try.ntmps40
  go_wp2
  all_goals go_ret
  all_goals first
    | (exfalso; simp_all only [Bool.false_eq_true, Bool.true_eq_false]; done)
    | (refine ⟨?_, rfl⟩
       simp only [beq_iff_eq, beq_eq_false_iff_ne, ne_eq] at *
       simp only [qual, *, if_true, if_false]
       rfl)
theorem smallKind_any (s : ByteArray) (w : World) :
    Calls Try.prog 37 #[.string s] w fun e w' => e = .returned (.int .i64 (smallK s)) ∧ w = w' := by
  cases h : resB s with
  | true =>
    have HK : Hid (smallK s = 9) := by unfold Hid smallK; rw [if_pos h]
    have C : Hid (∀ W, Calls Try.prog 52 #[.string s] W fun e w' => e = .returned (.bool true) ∧ W = w') := fun W => by have := resWord_any s W; rw [h] at this; exact this
    clear h
    go_enter Try.func37, Try.ntmps37
    go_wp2_with (go_at_call 52; refine (C.out _).mono ?_; rintro e w1 ⟨rfl, rfl⟩)
    go_ret
    exact ⟨by rw [HK.out]; rfl, rfl⟩
  | false =>
    have HK : Hid (smallK s = 1) := by unfold Hid smallK; rw [if_neg (by rw [h]; decide)]
    have C : Hid (∀ W, Calls Try.prog 52 #[.string s] W fun e w' => e = .returned (.bool false) ∧ W = w') := fun W => by have := resWord_any s W; rw [h] at this; exact this
    clear h
    go_enter Try.func37, Try.ntmps37
    go_wp2_with (go_at_call 52; refine (C.out _).mono ?_; rintro e w1 ⟨rfl, rfl⟩)
    go_ret
    exact ⟨by rw [HK.out]; rfl, rfl⟩
theorem byte0_in (s : ByteArray) (h : 0 < s.size) : byte0 s = s[0].toNat := by
  have hl := Lib.size_eq s
  unfold byte0
  rw [List.getD_eq_getElem?_getD, List.getElem?_eq_getElem (by omega)]
  rfl
theorem symbolKind_any (s : ByteArray) (hz : 0 < s.size) (w : World) :
    Calls Try.prog 39 #[.string s] w fun e w' => e = .returned (.int .i64 (symK s)) ∧ w = w' := by
  cases h : markB s with
  | true =>
    have HK : Hid (symK s = 10) := by unfold Hid symK; rw [if_pos h]
    have C : Hid (∀ W, Calls Try.prog 53 #[.string s] W fun e w' => e = .returned (.bool true) ∧ W = w') := fun W => by have := resOp_any s W; rw [h] at this; exact this
    clear h
    go_enter Try.func39, Try.ntmps39
    go_wp2_with (go_at_call 53; refine (C.out _).mono ?_; rintro e w1 ⟨rfl, rfl⟩)
    go_ret
    exact ⟨by rw [HK.out]; rfl, rfl⟩
  | false =>
    have C : Hid (∀ W, Calls Try.prog 53 #[.string s] W fun e w' => e = .returned (.bool false) ∧ W = w') := fun W => by have := resOp_any s W; rw [h] at this; exact this
    have hb := byte0_in s hz
    by_cases h1 : byte0 s = 58
    · have HK : Hid (symK s = 6) := by unfold Hid symK; rw [if_neg (by rw [h]; decide), if_pos h1]
      have x : s[0].toNat = 58 := by omega
      clear h h1 hb
      go_enter Try.func39, Try.ntmps39
      go_wp2_with (go_at_call 53; refine (C.out _).mono ?_; rintro e w1 ⟨rfl, rfl⟩)
      go_ret
      exact ⟨by rw [HK.out]; rfl, rfl⟩
    · have HK : Hid (symK s = 5) := by unfold Hid symK; rw [if_neg (by rw [h]; decide), if_neg h1]
      have x : ¬ s[0].toNat = 58 := by omega
      clear h h1 hb
      go_enter Try.func39, Try.ntmps39
      go_wp2_with (go_at_call 53; refine (C.out _).mono ?_; rintro e w1 ⟨rfl, rfl⟩)
      go_ret
      exact ⟨by rw [HK.out]; rfl, rfl⟩

/-- What is left of a string from byte n on. -/
def rest (s : ByteArray) (n : Nat) : List UInt8 := s.data.toList.drop n
theorem rest_len (s : ByteArray) (n : Nat) : (rest s n).length = s.size - n := by unfold rest; rw [List.length_drop, ← Lib.size_eq]
theorem rest_ne (s : ByteArray) (n : Nat) (h : n < s.size) : rest s n ≠ [] := by
  intro e
  have := rest_len s n
  rw [e] at this
  simp at this
  omega
theorem rest_nil (s : ByteArray) (n : Nat) (h : s.size ≤ n) : rest s n = [] := List.eq_nil_of_length_eq_zero (by rw [rest_len]; omega)
theorem rest_drop (s : ByteArray) (n k : Nat) : (rest s n).drop k = rest s (n + k) := by unfold rest; rw [List.drop_drop]
theorem rn_rest (s : ByteArray) (n : Nat) : rn (rest s n) = (((Utf8.decode s n).1 : Nat) : Int) := by unfold rn rest; rw [Lib.decodeL_drop]
theorem wd_rest (s : ByteArray) (n : Nat) : wd (rest s n) = (Utf8.decode s n).2 := by unfold wd rest; rw [Lib.decodeL_drop]
theorem runeAt_rest (s : ByteArray) (n : Nat) (h : n < s.size) : runeAt s (n : Int) = (rn (rest s n), ((wd (rest s n) : Nat) : Int)) := by rw [runeAt_in s n h, rn_rest, wd_rest]
theorem cut_bts (s : ByteArray) (n k : Nat) : s.extract n (n + k) = bts ((rest s n).take k) := by
  apply ByteArray.ext
  apply Array.toList_inj.1
  rw [Lib.extract_data, Nat.add_sub_cancel_left]
  rfl

theorem nameEnd_any (s : ByteArray) (n : Nat) (hs : s.size ≤ maxLen) (hn : n ≤ s.size) (w : World) :
    Calls Try.prog 36 #[.string s, .int .i64 (n : Int)] w fun e w' => e = .returned (.int .i64 ((n + run nameB (rest s n) : Nat) : Int)) ∧ Below w.heap.size w w' := by
  unfold maxLen at hs
  have hz : Hid ((s.extract n s.size).size = s.size - n) := size_tail s n
  go_enter Try.func36, Try.ntmps36
  go_wp2
  go_loopw [5] (fun _ wr => ∃ (p : Nat), wr = w.iter (s.extract n s.size) p ∧ p + run nameB (rest s (n + p)) = run nameB (rest s n) ∧ n + p ≤ s.size) (fun _ wr => s.size - wr.iterPos w.heap.size)
  case atStart => exact ⟨0, rfl, by rw [Nat.zero_add, Nat.add_zero], by omega⟩
  case round =>
    obtain ⟨p, rfl, hq, hf⟩ := hrel
    have HQ : Hid (p + run nameB (rest s (n + p)) = run nameB (rest s n)) := hq
    clear hq
    by_cases hp : n + p < s.size
    · have hw := width_ge s (n + p)
      have hx := width_fits s (n + p) hp
      have hc := rune_le s (n + p)
      have hnx : ∀ ty, (Instr.next (.pointer (some ⟨w.heap.size, 0, none⟩)) true ty).run Try.prog (w.iter (s.extract n s.size) p) = .ok (.tuple #[.bool true, .int .i64 (p : Int), .int .i32 (((Utf8.decode s (n + p)).1 : Nat) : Int)]) (w.iter (s.extract n s.size) (p + (Utf8.decode s (n + p)).2)) := fun ty => by
        have := run_next_any (P := Try.prog) w (s.extract n s.size) p ty (by rw [hz.out]; omega)
        rw [decode_tail_at] at this
        exact this
      cases he : nameB (((Utf8.decode s (n + p)).1 : Nat) : Int) with
      | true =>
        have HE : Hid (nameB (rn (rest s (n + p))) = true) := by unfold Hid; rw [rn_rest]; exact he
        have C : Hid (∀ W, Calls Try.prog 51 #[.int .i32 (((Utf8.decode s (n + p)).1 : Nat) : Int)] W fun e w' => e = .returned (.bool true) ∧ W = w') := fun W => by have := inName_any (((Utf8.decode s (n + p)).1 : Nat) : Int) W; rw [he] at this; exact this
        clear he
        go_wp2_with (go_at_call 51; refine (C.out _).mono ?_; rintro e w1 ⟨rfl, rfl⟩)
        go_roundw
        case rel =>
          refine ⟨p + (Utf8.decode s (n + p)).2, rfl, ?_, by omega⟩
          rw [← HQ.out, run_step nameB (rest s (n + p)) (rest_ne s _ hp) HE.out, wd_rest, rest_drop, Nat.add_assoc, Nat.add_assoc]
        case measure => simp; omega
      | false =>
        have HE : Hid (nameB (rn (rest s (n + p))) = false) := by unfold Hid; rw [rn_rest]; exact he
        have C : Hid (∀ W, Calls Try.prog 51 #[.int .i32 (((Utf8.decode s (n + p)).1 : Nat) : Int)] W fun e w' => e = .returned (.bool false) ∧ W = w') := fun W => by have := inName_any (((Utf8.decode s (n + p)).1 : Nat) : Int) W; rw [he] at this; exact this
        clear he
        go_wp2_with (go_at_call 51; refine (C.out _).mono ?_; rintro e w1 ⟨rfl, rfl⟩)
        go_ret
        refine ⟨?_, (Below.refl _ _).alloc (Nat.le_refl _) _⟩
        rw [← HQ.out, run_stop nameB (rest s (n + p)) (.inr HE.out)]
        simp
    · have hnx : ∀ ty, (Instr.next (.pointer (some ⟨w.heap.size, 0, none⟩)) true ty).run Try.prog (w.iter (s.extract n s.size) p) = _ := fun ty =>
        run_next_end (P := Try.prog) w (s.extract n s.size) p ty (by rw [hz.out]; omega)
      go_wp2
      go_ret
      refine ⟨?_, (Below.refl _ _).alloc (Nat.le_refl _) _⟩
      rw [← HQ.out, run_stop nameB (rest s (n + p)) (.inl (rest_nil s _ (by omega)))]
      have : s.size = n + p := by omega
      rw [this]
      simp

/-- glyph.Run over symbols. -/
theorem runEnd_rest (s : ByteArray) : ∀ (f n : Nat), s.size ≤ n + f → n ≤ s.size → runEnd s 5 f n = n + run symP (rest s n)
  | 0, n, hf, hn => by
    rw [run_stop symP (rest s n) (.inl (rest_nil s _ (by omega)))]
    unfold runEnd
    omega
  | f + 1, n, hf, hn => by
    by_cases h : n < s.size
    · have hw := width_ge s n
      have hx := width_fits s n h
      unfold runEnd
      rw [if_pos h]
      by_cases c : classI (((Utf8.decode s n).1 : Nat) : Int) = 5
      · rw [if_pos c, runEnd_rest s f _ (by omega) hx, run_step symP (rest s n) (rest_ne s n h) (by rw [rn_rest]; exact sym_of _ c), wd_rest, rest_drop, Nat.add_assoc]
      · rw [if_neg c, run_stop symP (rest s n) (.inr (by rw [rn_rest]; unfold symP; simpa using c))]
        rfl
    · rw [runEnd_end s 5 (f + 1) n h, run_stop symP (rest s n) (.inl (rest_nil s _ (by omega)))]
      omega
theorem runI_rest (s : ByteArray) (n : Nat) (hn : n ≤ s.size) : runI s (n : Int) 5 = ((n + run symP (rest s n) : Nat) : Int) := by
  unfold runI
  rw [if_neg (by omega), Int.toNat_natCast, runEnd_rest s _ _ (by omega) hn]

/-- part's answers. -/
def partI (s : ByteArray) (i : Int) : Int × Int :=
  if 0 ≤ i ∧ i ≤ s.size then ((part (rest s i.toNat)).1, if (part (rest s i.toNat)).1 = 0 then 0 else i + ((part (rest s i.toNat)).2 : Int)) else (0, 0)
theorem partI_out (s : ByteArray) (i : Int) (h : ¬ (0 ≤ i ∧ i < s.size)) : partI s i = (0, 0) := by
  unfold partI
  split
  · rename_i q
    have e : rest s i.toNat = [] := rest_nil s _ (by omega)
    rw [e]
    rfl
  · rfl
theorem partI_in (s : ByteArray) (n : Nat) (h : n < s.size) : partI s (n : Int) = ((part (rest s n)).1, if (part (rest s n)).1 = 0 then 0 else ((n + (part (rest s n)).2 : Nat) : Int)) := by
  unfold partI
  rw [if_pos (by omega), Int.toNat_natCast]
  rfl
theorem runeAt_out (s : ByteArray) (i : Int) (h : ¬ (0 ≤ i ∧ i < s.size)) : runeAt s i = (0, 0) := by unfold runeAt; rw [if_neg h]

theorem part_any (s : ByteArray) (i : Int) (hs : s.size ≤ 1125899906842624) (w : World) :
    Calls Try.prog 29 #[.string s, .int .i64 i] w fun e w' => e = .returned (.tuple #[.int .i64 (partI s i).1, .int .i64 (partI s i).2]) ∧ Below w.heap.size w w' := by
  have hM : Hid (s.size ≤ maxLen) := by unfold Hid maxLen; omega
  by_cases hin : 0 ≤ i ∧ i < s.size
  · obtain ⟨n, rfl⟩ := Int.eq_ofNat_of_zero_le (a := i) hin.1
    have hn : n < s.size := by omega
    have HR : Hid (runeAt s (n : Int) = (rn (rest s n), ((wd (rest s n) : Nat) : Int))) := runeAt_rest s n hn
    have HP := Lib.hid (partI_in s n hn)
    have hw1 := wd_pos (rest s n)
    have hw2 := wd_le _ (rest_ne s n hn)
    have hl := rest_len s n
    clear hin
    rcases part_cases (rest s n) with ⟨e, h0 | ⟨c1, c2, c3, c4⟩⟩ | ⟨_, c, e⟩ | ⟨_, c, e⟩ | ⟨_, c, e⟩ | ⟨_, c, e⟩
    · exact absurd h0 (rest_ne s n hn)
    · have HE := Lib.hid e
      have b1 : (classI (rn (rest s n)) == 2) = false := by rw [beq_eq_false_iff_ne]; exact c1
      have b2 : (classI (rn (rest s n)) == 3) = false := by rw [beq_eq_false_iff_ne]; exact c2
      have b3 : (classI (rn (rest s n)) == 5) = false := by rw [beq_eq_false_iff_ne]; exact c3
      have b4 : (classI (rn (rest s n)) == 6) = false := by rw [beq_eq_false_iff_ne]; exact c4
      clear e c1 c2 c3 c4
      go_enter Try.func29, Try.ntmps29
      go_wp2_with fail
      refine (next_any s n hM.out _).mono ?_
      rintro e w1 ⟨rfl, hb1⟩
      have HB1 := Lib.hid hb1
      clear hb1
      rw [HR.out]
      go_wp2_with fail
      refine (class_any _ _).mono ?_
      rintro e w2 ⟨rfl, rfl⟩
      go_wp2_with fail
      go_ret2
      exact ⟨by rw [HP.out, HE.out]; rfl, HB1.out⟩
    · have HE := Lib.hid e
      have C := Lib.hid c
      have hr := run_le nameB _ (rest s n) (Nat.le_refl _)
      have HX := Lib.hid (cut_bts s n (run nameB (rest s n)))
      clear e c
      go_enter Try.func29, Try.ntmps29
      go_wp2_with fail
      refine (next_any s n hM.out _).mono ?_
      rintro e w1 ⟨rfl, hb1⟩
      have HB1 := Lib.hid hb1
      clear hb1
      rw [HR.out]
      go_wp2_with fail
      refine (class_any _ _).mono ?_
      rintro e w2 ⟨rfl, rfl⟩
      rw [C.out]
      go_wp2_with fail
      refine (nameEnd_any s n hM.out (by omega) _).mono ?_
      rintro e w2 ⟨rfl, hb2⟩
      have HB2 := Lib.hid hb2
      clear hb2
      go_wp2_with fail
      rw [HX.out]
      refine (smallKind_any _ _).mono ?_
      rintro e w3 ⟨rfl, rfl⟩
      go_wp2_with fail
      go_ret2
      refine ⟨?_, HB1.out.trans (HB2.out.mono HB1.out.size)⟩
      rw [HP.out, HE.out]
      dsimp only
      rw [if_neg (by rcases smallK_cases (bts ((rest s n).take (run nameB (rest s n)))) with q | q <;> (rw [q]; decide))]
      rfl
    · have HE := Lib.hid e
      have C := Lib.hid c
      clear e c
      go_enter Try.func29, Try.ntmps29
      go_wp2_with fail
      refine (next_any s n hM.out _).mono ?_
      rintro e w1 ⟨rfl, hb1⟩
      have HB1 := Lib.hid hb1
      clear hb1
      rw [HR.out]
      go_wp2_with fail
      refine (class_any _ _).mono ?_
      rintro e w2 ⟨rfl, rfl⟩
      rw [C.out]
      go_wp2_with fail
      refine (nameEnd_any s n hM.out (by omega) _).mono ?_
      rintro e w2 ⟨rfl, hb2⟩
      have HB2 := Lib.hid hb2
      clear hb2
      go_wp2_with fail
      go_ret2
      refine ⟨?_, HB1.out.trans (HB2.out.mono HB1.out.size)⟩
      rw [HP.out, HE.out]
      rfl
    · have HE := Lib.hid e
      have C := Lib.hid c
      have hr := run_le symP _ (rest s n) (Nat.le_refl _)
      have hr2 := run_pos symP (rest s n) (rest_ne s n hn) (sym_of _ c)
      have HX := Lib.hid (cut_bts s n (run symP (rest s n)))
      have hz : 0 < (bts ((rest s n).take (run symP (rest s n)))).size := by
        rw [← cut_bts s n, Lib.size_eq, Lib.extract_data, List.length_take, Nat.add_sub_cancel_left]
        change 0 < min (run symP (rest s n)) (rest s n).length
        omega
      have HI := Lib.hid (runI_rest s n (by omega))
      have HZ := Lib.hid hz
      clear e c hz
      go_enter Try.func29, Try.ntmps29
      go_wp2_with fail
      refine (next_any s n hM.out _).mono ?_
      rintro e w1 ⟨rfl, hb1⟩
      have HB1 := Lib.hid hb1
      clear hb1
      rw [HR.out]
      go_wp2_with fail
      refine (class_any _ _).mono ?_
      rintro e w2 ⟨rfl, rfl⟩
      rw [C.out]
      go_wp2_with fail
      refine (run_any s n 5 hM.out _).mono ?_
      rintro e w2 ⟨rfl, hb2⟩
      have HB2 := Lib.hid hb2
      clear hb2
      rw [HI.out]
      go_wp2_with fail
      rw [HX.out]
      refine (symbolKind_any _ HZ.out _).mono ?_
      rintro e w3 ⟨rfl, rfl⟩
      go_wp2_with fail
      go_ret2
      refine ⟨?_, HB1.out.trans (HB2.out.mono HB1.out.size)⟩
      rw [HP.out, HE.out]
      dsimp only
      rw [if_neg (by rcases symK_cases (bts ((rest s n).take (run symP (rest s n)))) with q | q | q <;> (rw [q]; decide))]
      rfl
    · have HE := Lib.hid e
      have C := Lib.hid c
      clear e c
      go_enter Try.func29, Try.ntmps29
      go_wp2_with fail
      refine (next_any s n hM.out _).mono ?_
      rintro e w1 ⟨rfl, hb1⟩
      have HB1 := Lib.hid hb1
      clear hb1
      rw [HR.out]
      go_wp2_with fail
      refine (class_any _ _).mono ?_
      rintro e w2 ⟨rfl, rfl⟩
      rw [C.out]
      go_wp2_with fail
      go_ret2
      refine ⟨?_, HB1.out⟩
      rw [HP.out, HE.out]
      rfl
  · have HR := Lib.hid (runeAt_out s i hin)
    have HP := Lib.hid (partI_out s i hin)
    have c0 : Hid (classI 0 = 0) := by unfold Hid; decide +kernel
    clear hin
    go_enter Try.func29, Try.ntmps29
    go_wp2_with fail
    refine (next_any s i hM.out _).mono ?_
    rintro e w1 ⟨rfl, hb1⟩
    have HB1 := Lib.hid hb1
    clear hb1
    rw [HR.out]
    go_wp2_with fail
    refine (class_any _ _).mono ?_
    rintro e w2 ⟨rfl, rfl⟩
    rw [c0.out]
    go_wp2_with fail
    go_ret2
    exact ⟨by rw [HP.out]; rfl, HB1.out⟩
end Go.Proofs.Ytkabgeimcpkpgaa.Wrd
