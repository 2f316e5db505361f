/-
  The contracts of package word's functions, up to the word that begins at a byte, points apart. Condition: the string has at most 2^50 bytes.
-/
import Derived.Test.YtmgclgojmckfhaaGreatDoorZMthA
import Derived.Test.YtmgclgojmckfhaaGreatDoorZGlyB
import Derived.Lib.Strings
import Derived.Handy
import Derived.Deep.RegionWith
import Derived.Deep.DrawnRows
import Derived.Deep.RegionHeld3
import Derived.Deep.QuietTactic
import Derived.BigQuiet
namespace Go.Proofs.YtmgclgojmckfhaaGreatDoor.Wrd
open Go.RowKit Gly
set_option linter.unusedSimpArgs false

theorem resOp_any (s : ByteArray) (w : World) :
    Calls Tryz.prog 138 #[.string s] w fun e w' => e = .returned (.bool (markB s)) ∧ w = w' := by
  go_enter Tryz.func138, Tryz.ntmps138
  go_wp2
  all_goals go_ret
  all_goals first
    | (exfalso; simp_all only [Bool.false_eq_true, Bool.true_eq_false]; done)
    | (refine ⟨?_, rfl⟩; simp only [Lib.toList_data] at *; simp only [markB, marksL, List.any_cons, List.any_nil, *, Bool.or_true, Bool.true_or, Bool.false_or, Bool.or_false]; rfl)
theorem resWord_any (s : ByteArray) (w : World) :
    Calls Tryz.prog 137 #[.string s] w fun e w' => e = .returned (.bool (resB s)) ∧ w = w' := by
  go_enter Tryz.func137, Tryz.ntmps137
  go_wp2
  all_goals go_ret
  all_goals first
    | (exfalso; simp_all only [Bool.false_eq_true, Bool.true_eq_false]; done)
    | (refine ⟨?_, rfl⟩; simp only [Lib.toList_data] at *; simp only [resB, wordsL, List.any_cons, List.any_nil, *, Bool.or_true, Bool.true_or, Bool.false_or, Bool.or_false]; rfl)
theorem inName_any (c : Int) (w : World) :
    Calls Tryz.prog 136 #[.int .i32 c] w fun e w' => e = .returned (.bool (nameB c)) ∧ w = w' := by
  go_enter Tryz.func136, Tryz.ntmps136
  go_wp2_with (go_at_call 20; refine (class_any _ _).mono ?_; rintro e w1 ⟨rfl, rfl⟩)
  all_goals go_ret
  all_goals first
    | (exfalso; simp_all only [Bool.false_eq_true, Bool.true_eq_false]; done)
    | (refine ⟨?_, rfl⟩; simp only [nameB, *, Bool.or_true, Bool.true_or, Bool.false_or, Bool.or_false]; rfl)
theorem qualified_any (k : Int) (w : World) :
    Calls Tryz.prog 128 #[.int .i64 k] w fun e w' => e = .returned (.int .i64 (qual k)) ∧ w = w' := by
  go_enter Tryz.func128, Tryz.ntmps128
  go_wp2
  all_goals go_ret
  all_goals first
    | (exfalso; simp_all only [Bool.false_eq_true, Bool.true_eq_false]; done)
    | (refine ⟨?_, rfl⟩
       simp only [beq_iff_eq, beq_eq_false_iff_ne, ne_eq] at *
       simp only [qual, *, if_true, if_false]
       rfl)
theorem smallKind_any (s : ByteArray) (w : World) :
    Calls Tryz.prog 126 #[.string s] w fun e w' => e = .returned (.int .i64 (smallK s)) ∧ w = w' := by
  cases h : resB s with
  | true =>
    have HK : Hid (smallK s = 9) := by unfold Hid smallK; rw [if_pos h]
    have C : Hid (∀ W, Calls Tryz.prog 137 #[.string s] W fun e w' => e = .returned (.bool true) ∧ W = w') := fun W => by have := resWord_any s W; rw [h] at this; exact this
    clear h
    go_enter Tryz.func126, Tryz.ntmps126
    go_wp2_with (go_at_call 137; refine (C.out _).mono ?_; rintro e w1 ⟨rfl, rfl⟩)
    go_ret
    exact ⟨by rw [HK.out]; rfl, rfl⟩
  | false =>
    have HK : Hid (smallK s = 1) := by unfold Hid smallK; rw [if_neg (by rw [h]; decide)]
    have C : Hid (∀ W, Calls Tryz.prog 137 #[.string s] W fun e w' => e = .returned (.bool false) ∧ W = w') := fun W => by have := resWord_any s W; rw [h] at this; exact this
    clear h
    go_enter Tryz.func126, Tryz.ntmps126
    go_wp2_with (go_at_call 137; refine (C.out _).mono ?_; rintro e w1 ⟨rfl, rfl⟩)
    go_ret
    exact ⟨by rw [HK.out]; rfl, rfl⟩
theorem byte0_in (s : ByteArray) (h : 0 < s.size) : byte0 s = s[0].toNat := by
  have hl := Lib.size_eq s
  unfold byte0
  rw [List.getD_eq_getElem?_getD, List.getElem?_eq_getElem (by omega)]
  rfl
theorem symbolKind_any (s : ByteArray) (hz : 0 < s.size) (w : World) :
    Calls Tryz.prog 127 #[.string s] w fun e w' => e = .returned (.int .i64 (symK s)) ∧ w = w' := by
  cases h : markB s with
  | true =>
    have HK : Hid (symK s = 10) := by unfold Hid symK; rw [if_pos h]
    have C : Hid (∀ W, Calls Tryz.prog 138 #[.string s] W fun e w' => e = .returned (.bool true) ∧ W = w') := fun W => by have := resOp_any s W; rw [h] at this; exact this
    clear h
    go_enter Tryz.func127, Tryz.ntmps127
    go_wp2_with (go_at_call 138; refine (C.out _).mono ?_; rintro e w1 ⟨rfl, rfl⟩)
    go_ret
    exact ⟨by rw [HK.out]; rfl, rfl⟩
  | false =>
    have C : Hid (∀ W, Calls Tryz.prog 138 #[.string s] W fun e w' => e = .returned (.bool false) ∧ W = w') := fun W => by have := resOp_any s W; rw [h] at this; exact this
    have hb := byte0_in s hz
    by_cases h1 : byte0 s = 58
    · have HK : Hid (symK s = 6) := by unfold Hid symK; rw [if_neg (by rw [h]; decide), if_pos h1]
      have x : s[0].toNat = 58 := by omega
      clear h h1 hb
      go_enter Tryz.func127, Tryz.ntmps127
      go_wp2_with (go_at_call 138; refine (C.out _).mono ?_; rintro e w1 ⟨rfl, rfl⟩)
      go_ret
      exact ⟨by rw [HK.out]; rfl, rfl⟩
    · have HK : Hid (symK s = 5) := by unfold Hid symK; rw [if_neg (by rw [h]; decide), if_neg h1]
      have x : ¬ s[0].toNat = 58 := by omega
      clear h h1 hb
      go_enter Tryz.func127, Tryz.ntmps127
      go_wp2_with (go_at_call 138; refine (C.out _).mono ?_; rintro e w1 ⟨rfl, rfl⟩)
      go_ret
      exact ⟨by rw [HK.out]; rfl, rfl⟩

/-- What is left of a string from byte n on. -/
def rest (s : ByteArray) (n : Nat) : List UInt8 := s.data.toList.drop n
theorem rest_len (s : ByteArray) (n : Nat) : (rest s n).length = s.size - n := by unfold rest; rw [List.length_drop, ← Lib.size_eq]
theorem rest_ne (s : ByteArray) (n : Nat) (h : n < s.size) : rest s n ≠ [] := by
  intro e
  have := rest_len s n
  rw [e] at this
  simp at this
  omega
theorem rest_nil (s : ByteArray) (n : Nat) (h : s.size ≤ n) : rest s n = [] := List.eq_nil_of_length_eq_zero (by rw [rest_len]; omega)
theorem rest_drop (s : ByteArray) (n k : Nat) : (rest s n).drop k = rest s (n + k) := by unfold rest; rw [List.drop_drop]
theorem rn_rest (s : ByteArray) (n : Nat) : rn (rest s n) = (((Utf8.decode s n).1 : Nat) : Int) := by unfold rn rest; rw [Lib.decodeL_drop]
theorem wd_rest (s : ByteArray) (n : Nat) : wd (rest s n) = (Utf8.decode s n).2 := by unfold wd rest; rw [Lib.decodeL_drop]
theorem runeAt_rest (s : ByteArray) (n : Nat) (h : n < s.size) : runeAt s (n : Int) = (rn (rest s n), ((wd (rest s n) : Nat) : Int)) := by rw [runeAt_in s n h, rn_rest, wd_rest]
theorem cut_bts (s : ByteArray) (n k : Nat) : s.extract n (n + k) = bts ((rest s n).take k) := by
  apply ByteArray.ext
  apply Array.toList_inj.1
  rw [Lib.extract_data, Nat.add_sub_cancel_left]
  rfl

theorem nameEnd_any (s : ByteArray) (n : Nat) (hs : s.size ≤ maxLen) (hn : n ≤ s.size) (w : World) :
    Calls Tryz.prog 125 #[.string s, .int .i64 (n : Int)] w fun e w' => e = .returned (.int .i64 ((n + run nameB (rest s n) : Nat) : Int)) ∧ Below w.heap.size w w' := by
  unfold maxLen at hs
  have hz : Hid ((s.extract n s.size).size = s.size - n) := size_tail s n
  go_enter Tryz.func125, Tryz.ntmps125
  go_wp2
  go_loopw [5] (fun _ wr => ∃ (p : Nat), wr = w.iter (s.extract n s.size) p ∧ p + run nameB (rest s (n + p)) = run nameB (rest s n) ∧ n + p ≤ s.size) (fun _ wr => s.size - wr.iterPos w.heap.size)
  case atStart => exact ⟨0, rfl, by rw [Nat.zero_add, Nat.add_zero], by omega⟩
  case round =>
    obtain ⟨p, rfl, hq, hf⟩ := hrel
    have HQ : Hid (p + run nameB (rest s (n + p)) = run nameB (rest s n)) := hq
    clear hq
    by_cases hp : n + p < s.size
    · have hw := width_ge s (n + p)
      have hx := width_fits s (n + p) hp
      have hc := rune_le s (n + p)
      have hnx : ∀ ty, (Instr.next (.pointer (some ⟨w.heap.size, 0, none⟩)) true ty).run Tryz.prog (w.iter (s.extract n s.size) p) = .ok (.tuple #[.bool true, .int .i64 (p : Int), .int .i32 (((Utf8.decode s (n + p)).1 : Nat) : Int)]) (w.iter (s.extract n s.size) (p + (Utf8.decode s (n + p)).2)) := fun ty => by
        have := run_next_any (P := Tryz.prog) w (s.extract n s.size) p ty (by rw [hz.out]; omega)
        rw [decode_tail_at] at this
        exact this
      cases he : nameB (((Utf8.decode s (n + p)).1 : Nat) : Int) with
      | true =>
        have HE : Hid (nameB (rn (rest s (n + p))) = true) := by unfold Hid; rw [rn_rest]; exact he
        have C : Hid (∀ W, Calls Tryz.prog 136 #[.int .i32 (((Utf8.decode s (n + p)).1 : Nat) : Int)] W fun e w' => e = .returned (.bool true) ∧ W = w') := fun W => by have := inName_any (((Utf8.decode s (n + p)).1 : Nat) : Int) W; rw [he] at this; exact this
        clear he
        go_wp2_with (go_at_call 136; refine (C.out _).mono ?_; rintro e w1 ⟨rfl, rfl⟩)
        go_roundw
        case rel =>
          refine ⟨p + (Utf8.decode s (n + p)).2, rfl, ?_, by omega⟩
          rw [← HQ.out, run_step nameB (rest s (n + p)) (rest_ne s _ hp) HE.out, wd_rest, rest_drop, Nat.add_assoc, Nat.add_assoc]
        case measure => simp; omega
      | false =>
        have HE : Hid (nameB (rn (rest s (n + p))) = false) := by unfold Hid; rw [rn_rest]; exact he
        have C : Hid (∀ W, Calls Tryz.prog 136 #[.int .i32 (((Utf8.decode s (n + p)).1 : Nat) : Int)] W fun e w' => e = .returned (.bool false) ∧ W = w') := fun W => by have := inName_any (((Utf8.decode s (n + p)).1 : Nat) : Int) W; rw [he] at this; exact this
        clear he
        go_wp2_with (go_at_call 136; refine (C.out _).mono ?_; rintro e w1 ⟨rfl, rfl⟩)
        go_ret
        refine ⟨?_, (Below.refl _ _).alloc (Nat.le_refl _) _⟩
        rw [← HQ.out, run_stop nameB (rest s (n + p)) (.inr HE.out)]
        simp
    · have hnx : ∀ ty, (Instr.next (.pointer (some ⟨w.heap.size, 0, none⟩)) true ty).run Tryz.prog (w.iter (s.extract n s.size) p) = _ := fun ty =>
        run_next_end (P := Tryz.prog) w (s.extract n s.size) p ty (by rw [hz.out]; omega)
      go_wp2
      go_ret
      refine ⟨?_, (Below.refl _ _).alloc (Nat.le_refl _) _⟩
      rw [← HQ.out, run_stop nameB (rest s (n + p)) (.inl (rest_nil s _ (by omega)))]
      have : s.size = n + p := by omega
      rw [this]
      simp

/-- glyph.Run over symbols. -/
theorem runEnd_rest (s : ByteArray) : ∀ (f n : Nat), s.size ≤ n + f → n ≤ s.size → runEnd s 5 f n = n + run symP (rest s n)
  | 0, n, hf, hn => by
    rw [run_stop symP (rest s n) (.inl (rest_nil s _ (by omega)))]
    unfold runEnd
    omega
  | f + 1, n, hf, hn => by
    by_cases h : n < s.size
    · have hw := width_ge s n
      have hx := width_fits s n h
      unfold runEnd
      rw [if_pos h]
      by_cases c : classI (((Utf8.decode s n).1 : Nat) : Int) = 5
      · rw [if_pos c, runEnd_rest s f _ (by omega) hx, run_step symP (rest s n) (rest_ne s n h) (by rw [rn_rest]; exact sym_of _ c), wd_rest, rest_drop, Nat.add_assoc]
      · rw [if_neg c, run_stop symP (rest s n) (.inr (by rw [rn_rest]; unfold symP; simpa using c))]
        rfl
    · rw [runEnd_end s 5 (f + 1) n h, run_stop symP (rest s n) (.inl (rest_nil s _ (by omega)))]
      omega
theorem runI_rest (s : ByteArray) (n : Nat) (hn : n ≤ s.size) : runI s (n : Int) 5 = ((n + run symP (rest s n) : Nat) : Int) := by
  unfold runI
  rw [if_neg (by omega), Int.toNat_natCast, runEnd_rest s _ _ (by omega) hn]

/-- part's answers. -/
def partI (s : ByteArray) (i : Int) : Int × Int :=
  if 0 ≤ i ∧ i ≤ s.size then ((part (rest s i.toNat)).1, if (part (rest s i.toNat)).1 = 0 then 0 else i + ((part (rest s i.toNat)).2 : Int)) else (0, 0)
theorem partI_out (s : ByteArray) (i : Int) (h : ¬ (0 ≤ i ∧ i < s.size)) : partI s i = (0, 0) := by
  unfold partI
  split
  · rename_i q
    have e : rest s i.toNat = [] := rest_nil s _ (by omega)
    rw [e]
    rfl
  · rfl
theorem partI_in (s : ByteArray) (n : Nat) (h : n < s.size) : partI s (n : Int) = ((part (rest s n)).1, if (part (rest s n)).1 = 0 then 0 else ((n + (part (rest s n)).2 : Nat) : Int)) := by
  unfold partI
  rw [if_pos (by omega), Int.toNat_natCast]
  rfl
theorem runeAt_out (s : ByteArray) (i : Int) (h : ¬ (0 ≤ i ∧ i < s.size)) : runeAt s i = (0, 0) := by unfold runeAt; rw [if_neg h]

theorem part_any (s : ByteArray) (i : Int) (hs : s.size ≤ 1125899906842624) (w : World) :
    Calls Tryz.prog 108 #[.string s, .int .i64 i] w fun e w' => e = .returned (.tuple #[.int .i64 (partI s i).1, .int .i64 (partI s i).2]) ∧ Below w.heap.size w w' := by
  have hM : Hid (s.size ≤ maxLen) := by unfold Hid maxLen; omega
  by_cases hin : 0 ≤ i ∧ i < s.size
  · obtain ⟨n, rfl⟩ := Int.eq_ofNat_of_zero_le (a := i) hin.1
    have hn : n < s.size := by omega
    have HR : Hid (runeAt s (n : Int) = (rn (rest s n), ((wd (rest s n) : Nat) : Int))) := runeAt_rest s n hn
    have HP := Lib.hid (partI_in s n hn)
    have hw1 := wd_pos (rest s n)
    have hw2 := wd_le _ (rest_ne s n hn)
    have hl := rest_len s n
    clear hin
    rcases part_cases (rest s n) with ⟨e, h0 | ⟨c1, c2, c3, c4⟩⟩ | ⟨_, c, e⟩ | ⟨_, c, e⟩ | ⟨_, c, e⟩ | ⟨_, c, e⟩
    · exact absurd h0 (rest_ne s n hn)
    · have HE := Lib.hid e
      have b1 : (classI (rn (rest s n)) == 2) = false := by rw [beq_eq_false_iff_ne]; exact c1
      have b2 : (classI (rn (rest s n)) == 3) = false := by rw [beq_eq_false_iff_ne]; exact c2
      have b3 : (classI (rn (rest s n)) == 5) = false := by rw [beq_eq_false_iff_ne]; exact c3
      have b4 : (classI (rn (rest s n)) == 6) = false := by rw [beq_eq_false_iff_ne]; exact c4
      clear e c1 c2 c3 c4
      go_enter Tryz.func108, Tryz.ntmps108
      go_wp2_with fail
      refine (next_any s n hM.out _).mono ?_
      rintro e w1 ⟨rfl, hb1⟩
      have HB1 := Lib.hid hb1
      clear hb1
      rw [HR.out]
      go_wp2_with fail
      refine (class_any _ _).mono ?_
      rintro e w2 ⟨rfl, rfl⟩
      go_wp2_with fail
      go_ret2
      exact ⟨by rw [HP.out, HE.out]; rfl, HB1.out⟩
    · have HE := Lib.hid e
      have C := Lib.hid c
      have hr := run_le nameB _ (rest s n) (Nat.le_refl _)
      have HX := Lib.hid (cut_bts s n (run nameB (rest s n)))
      clear e c
      go_enter Tryz.func108, Tryz.ntmps108
      go_wp2_with fail
      refine (next_any s n hM.out _).mono ?_
      rintro e w1 ⟨rfl, hb1⟩
      have HB1 := Lib.hid hb1
      clear hb1
      rw [HR.out]
      go_wp2_with fail
      refine (class_any _ _).mono ?_
      rintro e w2 ⟨rfl, rfl⟩
      rw [C.out]
      go_wp2_with fail
      refine (nameEnd_any s n hM.out (by omega) _).mono ?_
      rintro e w2 ⟨rfl, hb2⟩
      have HB2 := Lib.hid hb2
      clear hb2
      go_wp2_with fail
      rw [HX.out]
      refine (smallKind_any _ _).mono ?_
      rintro e w3 ⟨rfl, rfl⟩
      go_wp2_with fail
      go_ret2
      refine ⟨?_, HB1.out.trans (HB2.out.mono HB1.out.size)⟩
      rw [HP.out, HE.out]
      dsimp only
      rw [if_neg (by rcases smallK_cases (bts ((rest s n).take (run nameB (rest s n)))) with q | q <;> (rw [q]; decide))]
      rfl
    · have HE := Lib.hid e
      have C := Lib.hid c
      clear e c
      go_enter Tryz.func108, Tryz.ntmps108
      go_wp2_with fail
      refine (next_any s n hM.out _).mono ?_
      rintro e w1 ⟨rfl, hb1⟩
      have HB1 := Lib.hid hb1
      clear hb1
      rw [HR.out]
      go_wp2_with fail
      refine (class_any _ _).mono ?_
      rintro e w2 ⟨rfl, rfl⟩
      rw [C.out]
      go_wp2_with fail
      refine (nameEnd_any s n hM.out (by omega) _).mono ?_
      rintro e w2 ⟨rfl, hb2⟩
      have HB2 := Lib.hid hb2
      clear hb2
      go_wp2_with fail
      go_ret2
      refine ⟨?_, HB1.out.trans (HB2.out.mono HB1.out.size)⟩
      rw [HP.out, HE.out]
      rfl
    · have HE := Lib.hid e
      have C := Lib.hid c
      have hr := run_le symP _ (rest s n) (Nat.le_refl _)
      have hr2 := run_pos symP (rest s n) (rest_ne s n hn) (sym_of _ c)
      have HX := Lib.hid (cut_bts s n (run symP (rest s n)))
      have hz : 0 < (bts ((rest s n).take (run symP (rest s n)))).size := by
        rw [← cut_bts s n, Lib.size_eq, Lib.extract_data, List.length_take, Nat.add_sub_cancel_left]
        change 0 < min (run symP (rest s n)) (rest s n).length
        omega
      have HI := Lib.hid (runI_rest s n (by omega))
      have HZ := Lib.hid hz
      clear e c hz
      go_enter Tryz.func108, Tryz.ntmps108
      go_wp2_with fail
      refine (next_any s n hM.out _).mono ?_
      rintro e w1 ⟨rfl, hb1⟩
      have HB1 := Lib.hid hb1
      clear hb1
      rw [HR.out]
      go_wp2_with fail
      refine (class_any _ _).mono ?_
      rintro e w2 ⟨rfl, rfl⟩
      rw [C.out]
      go_wp2_with fail
      refine (run_any s n 5 hM.out _).mono ?_
      rintro e w2 ⟨rfl, hb2⟩
      have HB2 := Lib.hid hb2
      clear hb2
      rw [HI.out]
      go_wp2_with fail
      rw [HX.out]
      refine (symbolKind_any _ HZ.out _).mono ?_
      rintro e w3 ⟨rfl, rfl⟩
      go_wp2_with fail
      go_ret2
      refine ⟨?_, HB1.out.trans (HB2.out.mono HB1.out.size)⟩
      rw [HP.out, HE.out]
      dsimp only
      rw [if_neg (by rcases symK_cases (bts ((rest s n).take (run symP (rest s n)))) with q | q | q <;> (rw [q]; decide))]
      rfl
    · have HE := Lib.hid e
      have C := Lib.hid c
      clear e c
      go_enter Tryz.func108, Tryz.ntmps108
      go_wp2_with fail
      refine (next_any s n hM.out _).mono ?_
      rintro e w1 ⟨rfl, hb1⟩
      have HB1 := Lib.hid hb1
      clear hb1
      rw [HR.out]
      go_wp2_with fail
      refine (class_any _ _).mono ?_
      rintro e w2 ⟨rfl, rfl⟩
      rw [C.out]
      go_wp2_with fail
      go_ret2
      refine ⟨?_, HB1.out⟩
      rw [HP.out, HE.out]
      rfl
  · have HR := Lib.hid (runeAt_out s i hin)
    have HP := Lib.hid (partI_out s i hin)
    have c0 : Hid (classI 0 = 0) := by unfold Hid; decide +kernel
    clear hin
    go_enter Tryz.func108, Tryz.ntmps108
    go_wp2_with fail
    refine (next_any s i hM.out _).mono ?_
    rintro e w1 ⟨rfl, hb1⟩
    have HB1 := Lib.hid hb1
    clear hb1
    rw [HR.out]
    go_wp2_with fail
    refine (class_any _ _).mono ?_
    rintro e w2 ⟨rfl, rfl⟩
    rw [c0.out]
    go_wp2_with fail
    go_ret2
    exact ⟨by rw [HP.out]; rfl, HB1.out⟩
end Go.Proofs.YtmgclgojmckfhaaGreatDoor.Wrd
/-
  The contracts of package word's qualify, scan, Scan, whole, Kind. Condition: the string has at most 2^50 bytes.
-/
namespace Go.Proofs.YtmgclgojmckfhaaGreatDoor.Wrd
open Go.RowKit Gly
set_option linter.unusedSimpArgs false

theorem rest_head (s : ByteArray) (n : Nat) (h : n < s.size) : (((rest s n).getD 0 0).toNat) = s[n].toNat := by
  have hl := Lib.size_eq s
  unfold rest
  rw [Lib.getD_dropU, Nat.add_zero, List.getD_eq_getElem?_getD, List.getElem?_eq_getElem (by omega)]
  rfl
theorem head_46 (s : ByteArray) (n : Nat) (h : n < s.size) : (rest s n).getD 0 0 = 46 ↔ s[n].toNat = 46 := by
  rw [← rest_head s n h]
  constructor
  · intro e
    rw [e]
    rfl
  · intro e
    exact UInt8.toNat_inj.1 e
theorem partI_le (s : ByteArray) (n : Nat) (h : n ≤ s.size) : partI s (n : Int) = ((part (rest s n)).1, if (part (rest s n)).1 = 0 then 0 else ((n + (part (rest s n)).2 : Nat) : Int)) := by
  unfold partI
  rw [if_pos (by omega), Int.toNat_natCast]
  rfl
/-- qualify's answer. -/
def qualI (s : ByteArray) (a : Nat) : Int × Int × Int := if (more (rest s a)).1 = 0 then (0, 0, 0) else ((more (rest s a)).1, ((a + (more (rest s a)).2 : Nat) : Int), (a : Int))

/-- A block that holds a lexeme. -/
def Trio (w : World) (g : Nat) (t : Int × Int × Int) : Prop := w.heap[g]? = some (.cells #[.int .i64 t.1, .int .i64 t.2.1, .int .i64 t.2.2] 120 (0, 0))
theorem Trio.c0 {w : World} {g : Nat} {t : Int × Int × Int} (h : Trio w g t) : w.cell? ⟨g, 0, none⟩ = some (.int .i64 t.1) := by rw [cell_of_row w g 0 _ _ _ h]; rfl
theorem Trio.c1 {w : World} {g : Nat} {t : Int × Int × Int} (h : Trio w g t) : w.cell? ⟨g, 1, none⟩ = some (.int .i64 t.2.1) := by rw [cell_of_row w g 1 _ _ _ h]; rfl
theorem Trio.c2 {w : World} {g : Nat} {t : Int × Int × Int} (h : Trio w g t) : w.cell? ⟨g, 2, none⟩ = some (.int .i64 t.2.2) := by rw [cell_of_row w g 2 _ _ _ h]; rfl
theorem Trio.free {w : World} {g : Nat} {t : Int × Int × Int} (h : Trio w g t) (i : Nat) : w.frozen? ⟨g, i, none⟩ = false := by unfold Trio at h; simp [World.frozen?, h]
theorem Trio.lt {w : World} {g : Nat} {t : Int × Int × Int} (h : Trio w g t) : g < w.heap.size := lt_of_block h
theorem Trio.below {B : Nat} {w w' : World} {g : Nat} {t : Int × Int × Int} (h : Trio w g t) (hb : Below B w w') (hg : g < B) : Trio w' g t := (hb.block g hg).trans h
theorem Trio.new (w : World) (t : Int × Int × Int) : Trio (w.alloc (.cells #[.int .i64 t.1, .int .i64 t.2.1, .int .i64 t.2.2] 120)) w.heap.size t := heap_alloc_new w _
theorem Trio.set {w : World} {g : Nat} {t t' : Int × Int × Int} (h : Trio w g t) : Trio (((w.setCell ⟨g, 0, none⟩ (.int .i64 t'.1)).setCell ⟨g, 1, none⟩ (.int .i64 t'.2.1)).setCell ⟨g, 2, none⟩ (.int .i64 t'.2.2)) g t' := by
  unfold Trio at h ⊢
  simp [World.setCell, Array.getElem?_modify, h]

theorem Trio.store {w0 w : World} {B g : Nat} {t : Int × Int × Int} (h : Trio w g t) (hb : Below B w0 w) (hg : B ≤ g) (a b c : Int) :
    Trio (((w.setCell ⟨g, 0, none⟩ (.int .i64 a)).setCell ⟨g, 1, none⟩ (.int .i64 b)).setCell ⟨g, 2, none⟩ (.int .i64 c)) g (a, b, c) ∧
    Below B w0 (((w.setCell ⟨g, 0, none⟩ (.int .i64 a)).setCell ⟨g, 1, none⟩ (.int .i64 b)).setCell ⟨g, 2, none⟩ (.int .i64 c)) ∧
    (∀ j, j ≠ g → (((w.setCell ⟨g, 0, none⟩ (.int .i64 a)).setCell ⟨g, 1, none⟩ (.int .i64 b)).setCell ⟨g, 2, none⟩ (.int .i64 c)).heap[j]? = w.heap[j]?) ∧
    (((w.setCell ⟨g, 0, none⟩ (.int .i64 a)).setCell ⟨g, 1, none⟩ (.int .i64 b)).setCell ⟨g, 2, none⟩ (.int .i64 c)).heap.size = w.heap.size := by
  refine ⟨h.set (t' := (a, b, c)), ((hb.setCell (by exact hg) _).setCell (by exact hg) _).setCell (by exact hg) _, fun j hj => ?_, ?_⟩
  · rw [Below.heap_setCell _ _ _ _ hj, Below.heap_setCell _ _ _ _ hj, Below.heap_setCell _ _ _ _ hj]
  · simp
theorem qualify_any (s : ByteArray) (a : Nat) (hs : s.size ≤ 1125899906842624) (ha : a ≤ s.size) (w : World) :
    Calls Tryz.prog 109 #[.string s, .int .i64 (a : Int)] w fun e w' => e = .returned (.agg #[.int .i64 (qualI s a).1, .int .i64 (qualI s a).2.1, .int .i64 (qualI s a).2.2]) ∧ Below w.heap.size w w' := by
  have tn := Trio.new w (0, 0, 0)
  by_cases h1 : a < s.size
  · by_cases h2 : s[a].toNat = 46
    · have h46 := (head_46 s a h1).2 h2
      have hp := partI_le s (a + 1) (by omega)
      have hd : (rest s a).drop 1 = rest s (a + 1) := rest_drop s a 1
      have hle := part_le (rest s (a + 1))
      have hl := rest_len s (a + 1)
      by_cases h3 : qual (part (rest s (a + 1))).1 = 0
      · have HQ : Hid (qualI s a = (0, 0, 0)) := by
          unfold Hid qualI
          rcases more_cases (rest s a) with ⟨e, _⟩ | ⟨_, _, q, _⟩
          · rw [e]
            rfl
          · rw [hd] at q
            exact absurd h3 q
        generalize (if (part (rest s (a + 1))).1 = 0 then (0 : Int) else ((a + 1 + (part (rest s (a + 1))).2 : Nat) : Int)) = ee at hp
        generalize (part (rest s (a + 1))).1 = kk at hp h3
        have H3 := Lib.hid h3
        have HP := Lib.hid hp
        clear h46 hp hd h3 hle hl
        go_enter Tryz.func109, Tryz.ntmps109
        go_wp2_with fail
        refine (part_any s ((a + 1 : Nat) : Int) hs _).mono ?_
        rintro e w1 ⟨rfl, hb1⟩
        have T1 : Hid (Trio w1 w.heap.size (0, 0, 0)) := tn.below hb1 tn.lt
        have HB1 : Hid (Below w.heap.size w w1) := ((Below.refl _ _).alloc (Nat.le_refl _) _).trans (hb1.mono (by rw [World.size_alloc]; omega))
        have y0 := T1.out.c0
        have y1 := T1.out.c1
        have y2 := T1.out.c2
        have y3 := T1.out.free 0
        have y4 := T1.out.free 1
        have y5 := T1.out.free 2
        clear hb1
        rw [HP.out]
        go_wp2_with fail
        refine (qualified_any _ _).mono ?_
        rintro e w2 ⟨rfl, rfl⟩
        rw [H3.out]
        go_wp2_with fail
        obtain ⟨t2, b2, -⟩ := T1.out.store HB1.out (Nat.le_refl _) 0 0 0
        have T2 := Lib.hid t2
        have B2 := Lib.hid b2
        clear t2 b2
        generalize ((w1.setCell ⟨w.heap.size, 0, none⟩ (.int .i64 0)).setCell ⟨w.heap.size, 1, none⟩ (.int .i64 0)).setCell ⟨w.heap.size, 2, none⟩ (.int .i64 0) = W3 at *
        have z0 := T2.out.c0
        have z1 := T2.out.c1
        have z2 := T2.out.c2
        dsimp only at z0 z1 z2
        refine bodyPost_ret (by simp [results, Tryz.results109, go_sem, z0, z1, z2]; try rfl) rfl ?_
        exact ⟨by rw [HQ.out], B2.out⟩
      · have HQ : Hid (qualI s a = (qual (part (rest s (a + 1))).1, ((a + 1 + (part (rest s (a + 1))).2 : Nat) : Int), (a : Int))) := by
          unfold Hid qualI
          rcases more_cases (rest s a) with ⟨_, q | q | q⟩ | ⟨_, _, q, e⟩
          · exact absurd q (rest_ne s a h1)
          · exact absurd h46 q
          · rw [hd] at q
            exact absurd q h3
          · rw [hd] at e q
            rw [e, if_neg q, ← Nat.add_assoc]
        have h4 : (part (rest s (a + 1))).1 ≠ 0 := by
          intro z
          rw [z] at h3
          exact h3 rfl
        rw [if_neg h4] at hp
        generalize ((a + 1 + (part (rest s (a + 1))).2 : Nat) : Int) = ee at hp HQ
        generalize (part (rest s (a + 1))).1 = kk at hp h3 HQ
        have b3 : (qual kk == 0) = false := by rw [beq_eq_false_iff_ne]; exact h3
        have HP := Lib.hid hp
        clear h46 hp hd h3 h4 hle hl
        go_enter Tryz.func109, Tryz.ntmps109
        go_wp2_with fail
        refine (part_any s ((a + 1 : Nat) : Int) hs _).mono ?_
        rintro e w1 ⟨rfl, hb1⟩
        have T1 : Hid (Trio w1 w.heap.size (0, 0, 0)) := tn.below hb1 tn.lt
        have HB1 : Hid (Below w.heap.size w w1) := ((Below.refl _ _).alloc (Nat.le_refl _) _).trans (hb1.mono (by rw [World.size_alloc]; omega))
        have y0 := T1.out.c0
        have y1 := T1.out.c1
        have y2 := T1.out.c2
        have y3 := T1.out.free 0
        have y4 := T1.out.free 1
        have y5 := T1.out.free 2
        clear hb1
        rw [HP.out]
        go_wp2_with fail
        refine (qualified_any _ _).mono ?_
        rintro e w2 ⟨rfl, rfl⟩
        go_wp2_with fail
        obtain ⟨t2, b2, -⟩ := T1.out.store HB1.out (Nat.le_refl _) (qual kk) ee (a : Int)
        have T2 := Lib.hid t2
        have B2 := Lib.hid b2
        clear t2 b2
        generalize ((w1.setCell ⟨w.heap.size, 0, none⟩ (.int .i64 (qual kk))).setCell ⟨w.heap.size, 1, none⟩ (.int .i64 ee)).setCell ⟨w.heap.size, 2, none⟩ (.int .i64 (a : Int)) = W3 at *
        have z0 := T2.out.c0
        have z1 := T2.out.c1
        have z2 := T2.out.c2
        dsimp only at z0 z1 z2
        refine bodyPost_ret (by simp [results, Tryz.results109, go_sem, z0, z1, z2]; try rfl) rfl ?_
        exact ⟨by rw [HQ.out], B2.out⟩
    · have hd := fun h => h2 ((head_46 s a h1).1 h)
      have HQ : Hid (qualI s a = (0, 0, 0)) := by
        unfold Hid qualI
        rcases more_cases (rest s a) with ⟨e, _⟩ | ⟨_, q, _⟩
        · rw [e]
          rfl
        · exact absurd q hd
      have b2 : (((s[a].toNat : Nat) : Int) != 46) = true := by rw [bne_iff_ne]; omega
      clear hd h2
      go_enter Tryz.func109, Tryz.ntmps109
      go_wp2_with fail
      go_returns
      exact ⟨by rw [HQ.out], by go_grown⟩
  · have HQ : Hid (qualI s a = (0, 0, 0)) := by
      unfold Hid qualI
      rw [rest_nil s a (by omega), if_pos more_nil]
    go_enter Tryz.func109, Tryz.ntmps109
    go_wp2_with fail
    go_returns
    exact ⟨by rw [HQ.out], by go_grown⟩

/-- What scan has found: kind, end, point (0: none). -/
def lexI (n : Nat) (t : Int × Nat × Nat) : Int × Int × Int := if t.1 = 0 then (0, 0, 0) else (t.1, ((n + t.2.1 : Nat) : Int), if t.2.2 = 0 then 0 else ((n + t.2.2 : Nat) : Int))
def scanI (s : ByteArray) (i : Int) : Int × Int × Int := if 0 ≤ i ∧ i ≤ s.size then lexI i.toNat (scan (rest s i.toNat)) else (0, 0, 0)

theorem scanI_at (s : ByteArray) (i : Int) : ∃ n : Nat, n ≤ s.size ∧ partI s i = ((part (rest s n)).1, if (part (rest s n)).1 = 0 then 0 else ((n + (part (rest s n)).2 : Nat) : Int)) ∧ scanI s i = lexI n (scan (rest s n)) := by
  by_cases h : 0 ≤ i ∧ i ≤ s.size
  · obtain ⟨n, rfl⟩ := Int.eq_ofNat_of_zero_le h.1
    refine ⟨n, by omega, partI_le s n (by omega), ?_⟩
    unfold scanI
    rw [if_pos h, Int.toNat_natCast]
  · refine ⟨s.size, Nat.le_refl _, ?_, ?_⟩
    · rw [partI_out s i (by omega), rest_nil s s.size (Nat.le_refl _)]
      rfl
    · unfold scanI
      rw [if_neg h, rest_nil s s.size (Nat.le_refl _)]
      rfl
/-- The end that a lexeme's block holds. -/
def endOf (w : World) (g : Nat) : Nat := (((w.cell? ⟨g, 1, none⟩).map intOf).getD 0).toNat
theorem Trio.endOf {w : World} {g : Nat} {t : Int × Int × Int} (h : Trio w g t) : Wrd.endOf w g = t.2.1.toNat := by
  unfold Wrd.endOf
  rw [h.c1]
  rfl

theorem scan_any (s : ByteArray) (i : Int) (hs : s.size ≤ 1125899906842624) (w : World) :
    Calls Tryz.prog 81 #[.string s, .int .i64 i] w fun e w' => e = .returned (.agg #[.int .i64 (scanI s i).1, .int .i64 (scanI s i).2.1, .int .i64 (scanI s i).2.2]) ∧ Below w.heap.size w w' := by
  have tn := Trio.new w (0, 0, 0)
  obtain ⟨n, hn, hp, hr⟩ := scanI_at s i
  have hl := rest_len s n
  have HR := Lib.hid hr
  have hst : ∃ kk ee : Int, partI s i = (kk, ee) ∧ (kk, ee, (0 : Int)) = lexI n ((part (rest s n)).1, (part (rest s n)).2, 0) := by
    refine ⟨_, _, hp, ?_⟩
    unfold lexI
    by_cases h : (part (rest s n)).1 = 0
    · rw [if_pos h, if_pos h, h]
    · rw [if_neg h, if_neg h]
      rfl
  obtain ⟨kk, ee, hp', hst⟩ := hst
  have HP := Lib.hid hp'
  have HST := Lib.hid hst
  clear hp hr hp' hst
  go_enter Tryz.func81, Tryz.ntmps81
  go_wp2_with fail
  refine (part_any s i hs _).mono ?_
  rintro e w1 ⟨rfl, hb1⟩
  have T1 : Hid (Trio w1 w.heap.size (0, 0, 0)) := tn.below hb1 tn.lt
  have HB1 : Hid (Below w.heap.size w w1) := ((Below.refl _ _).alloc (Nat.le_refl _) _).trans (hb1.mono (by rw [World.size_alloc]; omega))
  clear hb1
  rw [HP.out]
  go_wp2_with fail
  go_loopw [8] (fun _ wr => ∃ (k : Int) (m p f : Nat), Trio wr w1.heap.size (lexI n (k, m, p)) ∧ Trio wr w.heap.size (0, 0, 0) ∧ Below w.heap.size w wr ∧ grow f (rest s n) k m p = scan (rest s n) ∧ s.size ≤ n + m + f ∧ (k ≠ 0 → 1 ≤ m ∧ n + m ≤ s.size)) (fun _ wr => s.size - endOf wr w1.heap.size)
  case atStart =>
    refine ⟨(part (rest s n)).1, (part (rest s n)).2, 0, (rest s n).length, ?_, ?_, ?_, rfl, by omega, fun h => ⟨part_pos _ h, by have := part_le (rest s n); omega⟩⟩
    · rw [← HST.out]
      exact Trio.new w1 (kk, ee, 0)
    · exact T1.out.below ((Below.refl _ _).alloc (Nat.le_refl _) _) T1.out.lt
    · exact HB1.out.trans (((Below.refl _ _).alloc (Nat.le_refl _) _).mono HB1.out.size)
  case round =>
    obtain ⟨k, m, p, f, ht, hz, hbw, hq, hf, hkm⟩ := hrel
    have HT := Lib.hid ht
    have HZ := Lib.hid hz
    have HBW := Lib.hid hbw
    have HQ := Lib.hid hq
    clear ht hz hbw hq
    by_cases hk : k = 2 ∨ k = 4
    · rcases hk with rfl | rfl
      · have hE : ∃ am E2 : Int, am = ((n + m : Nat) : Int) ∧ lexI n (2, m, p) = (2, am, E2) := ⟨_, _, rfl, by unfold lexI; rw [if_neg (by dsimp only; decide)]⟩
        obtain ⟨am, E2, ham, hE⟩ := hE
        obtain ⟨hm1, hm2⟩ := hkm (by decide)
        have c0 := fun W => qualify_any s (n + m) hs hm2 W
        rw [← ham] at c0
        have HAM := Lib.hid ham
        have ht := HT.out
        rw [hE] at ht
        have HT' := Lib.hid ht
        have HE := Lib.hid hE
        clear ht hE HT hkm ham
        have x0 := HT'.out.c0
        have x1 := HT'.out.c1
        have x2 := HT'.out.c2
        dsimp only at x0 x1 x2
        by_cases hmo : (more (rest s (n + m))).1 = 0
        · have hq : qualI s (n + m) = (0, 0, 0) := by unfold qualI; rw [if_pos hmo]
          have FIN := Lib.hid (grow_final f (rest s n) 2 m p (.inr (by rw [rest_drop]; exact hmo)))
          rw [hq] at c0
          have C0 := Lib.hid c0
          clear hmo hq c0
          go_wp2_with fail
          refine (C0.out _).mono ?_
          rintro e w2 ⟨rfl, hb2⟩
          have T2 : Hid (Trio w2 w1.heap.size (2, am, E2)) := HT'.out.below hb2 HT'.out.lt
          have Z2 : Hid (Trio w2 w.heap.size (0, 0, 0)) := HZ.out.below hb2 HZ.out.lt
          have B2 : Hid (Below w.heap.size w w2) := HBW.out.trans (hb2.mono HBW.out.size)
          have L2 : Hid (w.heap.size < w2.heap.size) := Z2.out.lt
          clear hb2 x0 x1 x2
          have TW : Hid (Trio (w2.alloc (.cells #[.int .i64 0, .int .i64 0, .int .i64 0] 120)) w1.heap.size (2, am, E2)) := T2.out.below ((Below.refl _ _).alloc (Nat.le_refl _) _) T2.out.lt
          have ZW : Hid (Trio (w2.alloc (.cells #[.int .i64 0, .int .i64 0, .int .i64 0] 120)) w.heap.size (0, 0, 0)) := Z2.out.below ((Below.refl _ _).alloc (Nat.le_refl _) _) Z2.out.lt
          have BW : Hid (Below w.heap.size w (w2.alloc (.cells #[.int .i64 0, .int .i64 0, .int .i64 0] 120))) := B2.out.alloc (Nat.le_of_lt L2.out) _
          have NW : Hid (Trio (w2.alloc (.cells #[.int .i64 0, .int .i64 0, .int .i64 0] 120)) w2.heap.size (0, 0, 0)) := Trio.new w2 (0, 0, 0)
          have x0 := TW.out.c0
          have x1 := TW.out.c1
          have x2 := TW.out.c2
          have x3 := TW.out.free 0
          have x4 := TW.out.free 1
          have x5 := TW.out.free 2
          have z0 := ZW.out.free 0
          have z1 := ZW.out.free 1
          have z2 := ZW.out.free 2
          have z3 := ZW.out.c0
          have z4 := ZW.out.c1
          have z5 := ZW.out.c2
          have y0 := NW.out.c0
          have y1 := NW.out.c1
          have y2 := NW.out.c2
          dsimp only at x0 x1 x2 z3 z4 z5 y0 y1 y2
          go_wp2_with fail
          obtain ⟨t9, b9, -⟩ := ZW.out.store BW.out (Nat.le_refl _) 2 am E2
          have T9 := Lib.hid t9
          have B9 := Lib.hid b9
          clear t9 b9
          generalize (((w2.alloc (.cells #[.int .i64 0, .int .i64 0, .int .i64 0] 120)).setCell ⟨w.heap.size, 0, none⟩ (.int .i64 2)).setCell ⟨w.heap.size, 1, none⟩ (.int .i64 am)).setCell ⟨w.heap.size, 2, none⟩ (.int .i64 E2) = W3 at T9 B9 ⊢
          have v0 := T9.out.c0
          have v1 := T9.out.c1
          have v2 := T9.out.c2
          dsimp only at v0 v1 v2
          refine bodyPost_ret (by simp [results, Tryz.results81, go_sem, v0, v1, v2]; try rfl) rfl ?_
          exact ⟨by rw [HR.out, ← HQ.out, FIN.out, HE.out], B9.out⟩
        · have hq : qualI s (n + m) = ((more (rest s (n + m))).1, ((n + m + (more (rest s (n + m))).2 : Nat) : Int), ((n + m : Nat) : Int)) := by unfold qualI; rw [if_neg hmo]
          obtain ⟨hp1, hp2, -⟩ := more_pos _ hmo
          rw [rest_len] at hp2
          have HMR : Hid ((rest s n).drop m = rest s (n + m)) := rest_drop s n m
          rw [hq, ← HAM.out] at c0
          generalize hmm : more (rest s (n + m)) = mm at *
          obtain ⟨kn, ln⟩ := mm
          have HMM := Lib.hid hmm
          dsimp only at c0 hmo hp1 hp2
          have b3 : (kn == 0) = false := by rw [beq_eq_false_iff_ne]; exact hmo
          have HMO := Lib.hid hmo
          have hen : ∃ en : Int, en = ((n + m + ln : Nat) : Int) := ⟨_, rfl⟩
          obtain ⟨en, hen⟩ := hen
          rw [← hen] at c0
          have HEN := Lib.hid hen
          have C0 := Lib.hid c0
          clear hmo hq c0 hen hmm
          go_wp2_with fail
          refine (C0.out _).mono ?_
          rintro e w2 ⟨rfl, hb2⟩
          have T2 : Hid (Trio w2 w1.heap.size (2, am, E2)) := HT'.out.below hb2 HT'.out.lt
          have Z2 : Hid (Trio w2 w.heap.size (0, 0, 0)) := HZ.out.below hb2 HZ.out.lt
          have B2 : Hid (Below w.heap.size w w2) := HBW.out.trans (hb2.mono HBW.out.size)
          have L2 : Hid (w.heap.size < w2.heap.size) := Z2.out.lt
          clear hb2 x0 x1 x2
          have TW : Hid (Trio (w2.alloc (.cells #[.int .i64 kn, .int .i64 en, .int .i64 am] 120)) w1.heap.size (2, am, E2)) := T2.out.below ((Below.refl _ _).alloc (Nat.le_refl _) _) T2.out.lt
          have ZW : Hid (Trio (w2.alloc (.cells #[.int .i64 kn, .int .i64 en, .int .i64 am] 120)) w.heap.size (0, 0, 0)) := Z2.out.below ((Below.refl _ _).alloc (Nat.le_refl _) _) Z2.out.lt
          have BW : Hid (Below w.heap.size w (w2.alloc (.cells #[.int .i64 kn, .int .i64 en, .int .i64 am] 120))) := B2.out.alloc (Nat.le_of_lt L2.out) _
          have NW : Hid (Trio (w2.alloc (.cells #[.int .i64 kn, .int .i64 en, .int .i64 am] 120)) w2.heap.size (kn, en, am)) := Trio.new w2 (kn, en, am)
          have x0 := TW.out.c0
          have x1 := TW.out.c1
          have x2 := TW.out.c2
          have x3 := TW.out.free 0
          have x4 := TW.out.free 1
          have x5 := TW.out.free 2
          have z0 := ZW.out.free 0
          have z1 := ZW.out.free 1
          have z2 := ZW.out.free 2
          have z3 := ZW.out.c0
          have z4 := ZW.out.c1
          have z5 := ZW.out.c2
          have y0 := NW.out.c0
          have y1 := NW.out.c1
          have y2 := NW.out.c2
          dsimp only at x0 x1 x2 z3 z4 z5 y0 y1 y2
          go_wp2_with fail
          obtain ⟨t9, b9, o9, -⟩ := TW.out.store BW.out HB1.out.size kn en am
          have Z9 : Hid (Trio ((((w2.alloc (.cells #[.int .i64 kn, .int .i64 en, .int .i64 am] 120)).setCell ⟨w1.heap.size, 0, none⟩ (.int .i64 kn)).setCell ⟨w1.heap.size, 1, none⟩ (.int .i64 en)).setCell ⟨w1.heap.size, 2, none⟩ (.int .i64 am)) w.heap.size (0, 0, 0)) := (o9 _ (Nat.ne_of_lt T1.out.lt)).trans ZW.out
          have T9 := Lib.hid t9
          have B9 := Lib.hid b9
          clear t9 b9 o9
          generalize (((w2.alloc (.cells #[.int .i64 kn, .int .i64 en, .int .i64 am] 120)).setCell ⟨w1.heap.size, 0, none⟩ (.int .i64 kn)).setCell ⟨w1.heap.size, 1, none⟩ (.int .i64 en)).setCell ⟨w1.heap.size, 2, none⟩ (.int .i64 am) = W3 at T9 B9 Z9 ⊢
          refine ⟨?_, ?_⟩
          · have e9 : lexI n (kn, m + ln, m) = (kn, en, am) := by
              unfold lexI
              rw [if_neg HMO.out, HEN.out, HAM.out]
              dsimp only
              rw [if_neg (by omega), ← Nat.add_assoc]
            refine ⟨kn, m + ln, m, f - 1, by rw [e9]; exact T9.out, Z9.out, B9.out, ?_, by omega, fun _ => by omega⟩
            cases f with
            | zero => exfalso; omega
            | succ f =>
              rw [← HQ.out, grow_next f (rest s n) 2 m p (by decide) (by rw [HMR.out, HMM.out]; exact HMO.out), HMR.out, HMM.out]
              rfl
          · rw [T9.out.endOf, HT'.out.endOf]
            have h1 := HEN.out
            have h2 := HAM.out
            dsimp only
            omega
      · have hE : ∃ am E2 : Int, am = ((n + m : Nat) : Int) ∧ lexI n (4, m, p) = (4, am, E2) := ⟨_, _, rfl, by unfold lexI; rw [if_neg (by dsimp only; decide)]⟩
        obtain ⟨am, E2, ham, hE⟩ := hE
        obtain ⟨hm1, hm2⟩ := hkm (by decide)
        have c0 := fun W => qualify_any s (n + m) hs hm2 W
        rw [← ham] at c0
        have HAM := Lib.hid ham
        have ht := HT.out
        rw [hE] at ht
        have HT' := Lib.hid ht
        have HE := Lib.hid hE
        clear ht hE HT hkm ham
        have x0 := HT'.out.c0
        have x1 := HT'.out.c1
        have x2 := HT'.out.c2
        dsimp only at x0 x1 x2
        by_cases hmo : (more (rest s (n + m))).1 = 0
        · have hq : qualI s (n + m) = (0, 0, 0) := by unfold qualI; rw [if_pos hmo]
          have FIN := Lib.hid (grow_final f (rest s n) 4 m p (.inr (by rw [rest_drop]; exact hmo)))
          rw [hq] at c0
          have C0 := Lib.hid c0
          clear hmo hq c0
          go_wp2_with fail
          refine (C0.out _).mono ?_
          rintro e w2 ⟨rfl, hb2⟩
          have T2 : Hid (Trio w2 w1.heap.size (4, am, E2)) := HT'.out.below hb2 HT'.out.lt
          have Z2 : Hid (Trio w2 w.heap.size (0, 0, 0)) := HZ.out.below hb2 HZ.out.lt
          have B2 : Hid (Below w.heap.size w w2) := HBW.out.trans (hb2.mono HBW.out.size)
          have L2 : Hid (w.heap.size < w2.heap.size) := Z2.out.lt
          clear hb2 x0 x1 x2
          have TW : Hid (Trio (w2.alloc (.cells #[.int .i64 0, .int .i64 0, .int .i64 0] 120)) w1.heap.size (4, am, E2)) := T2.out.below ((Below.refl _ _).alloc (Nat.le_refl _) _) T2.out.lt
          have ZW : Hid (Trio (w2.alloc (.cells #[.int .i64 0, .int .i64 0, .int .i64 0] 120)) w.heap.size (0, 0, 0)) := Z2.out.below ((Below.refl _ _).alloc (Nat.le_refl _) _) Z2.out.lt
          have BW : Hid (Below w.heap.size w (w2.alloc (.cells #[.int .i64 0, .int .i64 0, .int .i64 0] 120))) := B2.out.alloc (Nat.le_of_lt L2.out) _
          have NW : Hid (Trio (w2.alloc (.cells #[.int .i64 0, .int .i64 0, .int .i64 0] 120)) w2.heap.size (0, 0, 0)) := Trio.new w2 (0, 0, 0)
          have x0 := TW.out.c0
          have x1 := TW.out.c1
          have x2 := TW.out.c2
          have x3 := TW.out.free 0
          have x4 := TW.out.free 1
          have x5 := TW.out.free 2
          have z0 := ZW.out.free 0
          have z1 := ZW.out.free 1
          have z2 := ZW.out.free 2
          have z3 := ZW.out.c0
          have z4 := ZW.out.c1
          have z5 := ZW.out.c2
          have y0 := NW.out.c0
          have y1 := NW.out.c1
          have y2 := NW.out.c2
          dsimp only at x0 x1 x2 z3 z4 z5 y0 y1 y2
          go_wp2_with fail
          obtain ⟨t9, b9, -⟩ := ZW.out.store BW.out (Nat.le_refl _) 4 am E2
          have T9 := Lib.hid t9
          have B9 := Lib.hid b9
          clear t9 b9
          generalize (((w2.alloc (.cells #[.int .i64 0, .int .i64 0, .int .i64 0] 120)).setCell ⟨w.heap.size, 0, none⟩ (.int .i64 4)).setCell ⟨w.heap.size, 1, none⟩ (.int .i64 am)).setCell ⟨w.heap.size, 2, none⟩ (.int .i64 E2) = W3 at T9 B9 ⊢
          have v0 := T9.out.c0
          have v1 := T9.out.c1
          have v2 := T9.out.c2
          dsimp only at v0 v1 v2
          refine bodyPost_ret (by simp [results, Tryz.results81, go_sem, v0, v1, v2]; try rfl) rfl ?_
          exact ⟨by rw [HR.out, ← HQ.out, FIN.out, HE.out], B9.out⟩
        · have hq : qualI s (n + m) = ((more (rest s (n + m))).1, ((n + m + (more (rest s (n + m))).2 : Nat) : Int), ((n + m : Nat) : Int)) := by unfold qualI; rw [if_neg hmo]
          obtain ⟨hp1, hp2, -⟩ := more_pos _ hmo
          rw [rest_len] at hp2
          have HMR : Hid ((rest s n).drop m = rest s (n + m)) := rest_drop s n m
          rw [hq, ← HAM.out] at c0
          generalize hmm : more (rest s (n + m)) = mm at *
          obtain ⟨kn, ln⟩ := mm
          have HMM := Lib.hid hmm
          dsimp only at c0 hmo hp1 hp2
          have b3 : (kn == 0) = false := by rw [beq_eq_false_iff_ne]; exact hmo
          have HMO := Lib.hid hmo
          have hen : ∃ en : Int, en = ((n + m + ln : Nat) : Int) := ⟨_, rfl⟩
          obtain ⟨en, hen⟩ := hen
          rw [← hen] at c0
          have HEN := Lib.hid hen
          have C0 := Lib.hid c0
          clear hmo hq c0 hen hmm
          go_wp2_with fail
          refine (C0.out _).mono ?_
          rintro e w2 ⟨rfl, hb2⟩
          have T2 : Hid (Trio w2 w1.heap.size (4, am, E2)) := HT'.out.below hb2 HT'.out.lt
          have Z2 : Hid (Trio w2 w.heap.size (0, 0, 0)) := HZ.out.below hb2 HZ.out.lt
          have B2 : Hid (Below w.heap.size w w2) := HBW.out.trans (hb2.mono HBW.out.size)
          have L2 : Hid (w.heap.size < w2.heap.size) := Z2.out.lt
          clear hb2 x0 x1 x2
          have TW : Hid (Trio (w2.alloc (.cells #[.int .i64 kn, .int .i64 en, .int .i64 am] 120)) w1.heap.size (4, am, E2)) := T2.out.below ((Below.refl _ _).alloc (Nat.le_refl _) _) T2.out.lt
          have ZW : Hid (Trio (w2.alloc (.cells #[.int .i64 kn, .int .i64 en, .int .i64 am] 120)) w.heap.size (0, 0, 0)) := Z2.out.below ((Below.refl _ _).alloc (Nat.le_refl _) _) Z2.out.lt
          have BW : Hid (Below w.heap.size w (w2.alloc (.cells #[.int .i64 kn, .int .i64 en, .int .i64 am] 120))) := B2.out.alloc (Nat.le_of_lt L2.out) _
          have NW : Hid (Trio (w2.alloc (.cells #[.int .i64 kn, .int .i64 en, .int .i64 am] 120)) w2.heap.size (kn, en, am)) := Trio.new w2 (kn, en, am)
          have x0 := TW.out.c0
          have x1 := TW.out.c1
          have x2 := TW.out.c2
          have x3 := TW.out.free 0
          have x4 := TW.out.free 1
          have x5 := TW.out.free 2
          have z0 := ZW.out.free 0
          have z1 := ZW.out.free 1
          have z2 := ZW.out.free 2
          have z3 := ZW.out.c0
          have z4 := ZW.out.c1
          have z5 := ZW.out.c2
          have y0 := NW.out.c0
          have y1 := NW.out.c1
          have y2 := NW.out.c2
          dsimp only at x0 x1 x2 z3 z4 z5 y0 y1 y2
          go_wp2_with fail
          obtain ⟨t9, b9, o9, -⟩ := TW.out.store BW.out HB1.out.size kn en am
          have Z9 : Hid (Trio ((((w2.alloc (.cells #[.int .i64 kn, .int .i64 en, .int .i64 am] 120)).setCell ⟨w1.heap.size, 0, none⟩ (.int .i64 kn)).setCell ⟨w1.heap.size, 1, none⟩ (.int .i64 en)).setCell ⟨w1.heap.size, 2, none⟩ (.int .i64 am)) w.heap.size (0, 0, 0)) := (o9 _ (Nat.ne_of_lt T1.out.lt)).trans ZW.out
          have T9 := Lib.hid t9
          have B9 := Lib.hid b9
          clear t9 b9 o9
          generalize (((w2.alloc (.cells #[.int .i64 kn, .int .i64 en, .int .i64 am] 120)).setCell ⟨w1.heap.size, 0, none⟩ (.int .i64 kn)).setCell ⟨w1.heap.size, 1, none⟩ (.int .i64 en)).setCell ⟨w1.heap.size, 2, none⟩ (.int .i64 am) = W3 at T9 B9 Z9 ⊢
          refine ⟨?_, ?_⟩
          · have e9 : lexI n (kn, m + ln, m) = (kn, en, am) := by
              unfold lexI
              rw [if_neg HMO.out, HEN.out, HAM.out]
              dsimp only
              rw [if_neg (by omega), ← Nat.add_assoc]
            refine ⟨kn, m + ln, m, f - 1, by rw [e9]; exact T9.out, Z9.out, B9.out, ?_, by omega, fun _ => by omega⟩
            cases f with
            | zero => exfalso; omega
            | succ f =>
              rw [← HQ.out, grow_next f (rest s n) 4 m p (by decide) (by rw [HMR.out, HMM.out]; exact HMO.out), HMR.out, HMM.out]
              rfl
          · rw [T9.out.endOf, HT'.out.endOf]
            have h1 := HEN.out
            have h2 := HAM.out
            dsimp only
            omega
    · have hfin := grow_final f (rest s n) k m p (.inl hk)
      have b1 : (k == 2) = false := by rw [beq_eq_false_iff_ne]; omega
      have b2 : (k == 4) = false := by rw [beq_eq_false_iff_ne]; omega
      have hE : ∃ E1 E2 : Int, lexI n (k, m, p) = (k, E1, E2) := by
        unfold lexI
        by_cases q : k = 0
        · exact ⟨0, 0, by rw [if_pos q, q]⟩
        · exact ⟨_, _, by rw [if_neg q]⟩
      obtain ⟨E1, E2, hE⟩ := hE
      have ht := HT.out
      rw [hE] at ht
      have HT' := Lib.hid ht
      have x0 := ht.c0
      have x1 := ht.c1
      have x2 := ht.c2
      clear ht HT
      have z0 := HZ.out.free 0
      have z1 := HZ.out.free 1
      have z2 := HZ.out.free 2
      have z3 := HZ.out.c0
      have z4 := HZ.out.c1
      have z5 := HZ.out.c2
      dsimp only at x0 x1 x2 z3 z4 z5
      have FIN := Lib.hid hfin
      have HE := Lib.hid hE
      clear hfin hE hk
      go_wp2_with fail
      obtain ⟨t9, b9, -⟩ := HZ.out.store HBW.out (Nat.le_refl _) k E1 E2
      have T9 := Lib.hid t9
      have B9 := Lib.hid b9
      clear t9 b9
      generalize ((wr.setCell ⟨w.heap.size, 0, none⟩ (.int .i64 k)).setCell ⟨w.heap.size, 1, none⟩ (.int .i64 E1)).setCell ⟨w.heap.size, 2, none⟩ (.int .i64 E2) = W3 at T9 B9 ⊢
      have y0 := T9.out.c0
      have y1 := T9.out.c1
      have y2 := T9.out.c2
      dsimp only at y0 y1 y2
      refine bodyPost_ret (by simp [results, Tryz.results81, go_sem, y0, y1, y2]; try rfl) rfl ?_
      exact ⟨by rw [HR.out, ← HQ.out, FIN.out, HE.out], B9.out⟩
end Go.Proofs.YtmgclgojmckfhaaGreatDoor.Wrd
/-
  The contracts of the document's own class, name, Words, Marks, Among, operator. Condition: the string has at most 2^50 bytes.
-/
namespace Go.Proofs.YtmgclgojmckfhaaGreatDoor.Wrd
open Go.RowKit Gly
set_option linter.unusedSimpArgs false

/-- A block of texts. -/
def Row (w : World) (g : Nat) (L : List (List UInt8)) : Prop := w.heap[g]? = some (.cells (L.map fun x => Value.string (bts x)).toArray 9 (0, 0))
theorem Row.at_ {w : World} {g : Nat} {L : List (List UInt8)} (h : Row w g L) (k : Nat) (hk : k < L.length) : w.cell? ⟨g, k, none⟩ = some (.string (bts L[k])) := by
  rw [cell_of_row w g k _ _ _ h]
  simp [hk]
theorem Row.below {B : Nat} {w w' : World} {g : Nat} {L : List (List UInt8)} (h : Row w g L) (hb : Below B w w') (hg : g < B) : Row w' g L := (hb.block g hg).trans h
end Go.Proofs.YtmgclgojmckfhaaGreatDoor.Wrd
/-
  The contracts of the document's own Run over symbols, great, and Scan. Condition: the string has at most 2^50 bytes.
-/
namespace Go.Proofs.YtmgclgojmckfhaaGreatDoor.Wrd
open Go.RowKit Gly
set_option linter.unusedSimpArgs false

end Go.Proofs.YtmgclgojmckfhaaGreatDoor.Wrd
/-
  The contracts of package word's whole, Scan, Kind, begins, Split, Apart. Condition: a string has at most 2^49 bytes.
-/
namespace Go.Proofs.YtmgclgojmckfhaaGreatDoor.Wrd
open Go.RowKit Gly
set_option linter.unusedSimpArgs false

theorem below_drewN {B : Nat} {a w : World} (h : Below B a w) (n : Nat) : Below B a (w.drewN n) := ⟨h.os, h.tape, h.output, h.size, h.block⟩
theorem Scan_any (s : ByteArray) (i : Int) (hs : s.size ≤ 1125899906842624) (w : World) :
    Calls Tryz.prog 62 #[.string s, .int .i64 i] w fun e w' => e = .returned (.tuple #[.int .i64 (scanI s i).1, .int .i64 (scanI s i).2.1]) ∧ Below w.heap.size w w' := by
  have c0 := fun W => scan_any s i hs W
  generalize scanI s i = r at c0 ⊢
  obtain ⟨k, e, p⟩ := r
  dsimp only at c0 ⊢
  have C0 := Lib.hid c0
  clear c0
  go_enter Tryz.func62, Tryz.ntmps62
  go_wp2_with fail
  refine (C0.out _).mono ?_
  rintro e w1 ⟨rfl, hb1⟩
  have HB1 := Lib.hid hb1
  clear hb1
  have NW := Trio.new w1 (k, e, p)
  have y0 := NW.c0
  have y1 := NW.c1
  have y2 := NW.c2
  dsimp only at y0 y1 y2
  clear NW
  go_wp2_with fail
  go_quiet (fail)
  go_wp2_with fail
  go_ret2
  exact ⟨rfl, below_drewN (HB1.out.trans (((Below.refl _ _).alloc (Nat.le_refl _) _).mono HB1.out.size)) _⟩

end Go.Proofs.YtmgclgojmckfhaaGreatDoor.Wrd
/-
  The contract of the document's own great, and of its Scan, Kind, Apart. Condition: the string has at most 2^50 bytes.
-/
namespace Go.Proofs.YtmgclgojmckfhaaGreatDoor.Wrd
open Go.RowKit Gly
set_option linter.unusedSimpArgs false

/-- The document's own Scan answers what scanI says. -/
theorem scanI_in (s : ByteArray) (n : Nat) (h : n < s.size) : scanI s (n : Int) = lexI n (scan (rest s n)) := by
  unfold scanI
  rw [if_pos (by omega), Int.toNat_natCast]
theorem scanI_out (s : ByteArray) (i : Int) (h : ¬ (0 ≤ i ∧ i < s.size)) : scanI s i = (0, 0, 0) := by
  unfold scanI
  split
  · rename_i q
    rw [rest_nil s _ (by omega)]
    rfl
  · rfl
end Go.Proofs.YtmgclgojmckfhaaGreatDoor.Wrd
