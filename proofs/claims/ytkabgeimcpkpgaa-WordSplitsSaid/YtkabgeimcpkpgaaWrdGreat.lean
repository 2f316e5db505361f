/-
  The contract of the document's own great, and of its Scan, Kind, Apart. Condition: the string has at most 2^50 bytes.
-/
import Derived.Test.YtkabgeimcpkpgaaWrdRun
import Derived.Test.YtkabgeimcpkpgaaWrdKind
namespace Go.Proofs.Ytkabgeimcpkpgaa.Wrd
open Go.RowKit Gly
set_option linter.unusedSimpArgs false

/-- What stands behind an upper-case name that ends at a. -/
theorem more_at (s : ByteArray) (a : Nat) (h1 : a + 1 < s.size) (h2 : s[a].toNat = 46) : more (rest s a) = if qual (part (rest s (a + 1))).1 = 0 then (0, 0) else (qual (part (rest s (a + 1))).1, 1 + (part (rest s (a + 1))).2) := by
  have h46 := (head_46 s a (by omega)).2 h2
  have hd : (rest s a).drop 1 = rest s (a + 1) := rest_drop s a 1
  rcases more_cases (rest s a) with ⟨e, q | q | q⟩ | ⟨_, _, q, e⟩
  · exact absurd q (rest_ne s a (by omega))
  · exact absurd h46 q
  · rw [hd] at q
    rw [e, if_pos q]
  · rw [hd] at q e
    rw [e, if_neg q]
theorem more_off (s : ByteArray) (a : Nat) (h : ¬ (a + 1 < s.size) ∨ ∃ h1 : a < s.size, s[a].toNat ≠ 46) : (more (rest s a)).1 = 0 := by
  rcases more_cases (rest s a) with ⟨e, _⟩ | ⟨n0, h46, q, e⟩
  · rw [e]
  · have hd : (rest s a).drop 1 = rest s (a + 1) := rest_drop s a 1
    have ha : a < s.size := by
      rcases Nat.lt_or_ge a s.size with h | h
      · exact h
      · exact absurd (rest_nil s a h) n0
    rcases h with h | ⟨h1, h⟩
    · rw [hd, rest_nil s (a + 1) (by omega)] at q
      exact absurd rfl q
    · exact absurd ((head_46 s a ha).1 h46) h

set_option maxHeartbeats 4000000 in
theorem refgreat_any (s : ByteArray) (n : Nat) (hs : s.size ≤ 1125899906842624) (hn : n < s.size) (hc : classI (rn (rest s n)) = 3) (w : World) :
    Calls Try.prog 26 #[.string s, .int .i64 (n : Int)] w fun e w' => e = .returned (.tuple #[.int .i64 (scan (rest s n)).1, .int .i64 ((n + (scan (rest s n)).2.1 : Nat) : Int)]) ∧ Below w.heap.size w w' := by
  have hl := rest_len s n
  have hpart : part (rest s n) = (2, run nameB (rest s n)) := by
    unfold part
    rw [if_neg (rest_ne s n hn), if_neg (by omega), if_pos hc]
  have hstart : grow (rest s n).length (rest s n) 2 (run nameB (rest s n)) 0 = scan (rest s n) := by
    unfold scan
    rw [hpart]
  have hle := run_le nameB _ (rest s n) (Nat.le_refl _)
  have c0 := fun W => refname_any s n hs (by omega) W
  generalize run nameB (rest s n) = m0 at *
  have C0 := Lib.hid c0
  have HS := Lib.hid hstart
  clear c0 hpart hstart hc
  go_enter Try.func26, Try.ntmps26
  go_wp2_with fail
  refine (C0.out _).mono ?_
  rintro e w1 ⟨rfl, rfl⟩
  go_wp2_with fail
  go_loop [6, 7] (fun kv ev => ∃ (kk : Int) (a m p f : Nat), kv = .int .i64 kk ∧ (kk = 2 ∨ kk = 4) ∧ ev = .int .i64 (a : Int) ∧ a = n + m ∧ a ≤ s.size ∧ grow f (rest s n) kk m p = scan (rest s n) ∧ s.size ≤ a + f) (fun _ ev => s.size - (intOf ev).toNat)
  case atStart => exact ⟨2, n + m0, m0, 0, (rest s n).length, rfl, .inl rfl, rfl, rfl, by omega, HS.out, by omega⟩
  case round =>
    obtain ⟨kk, a, m, p, f, rfl, hkk, rfl, ham, ha, hq, hf⟩ := hrel
    have HQ := Lib.hid hq
    have HKK := Lib.hid hkk
    have HAM := Lib.hid ham
    have HD : Hid ((rest s n).drop m = rest s a) := by unfold Hid; rw [rest_drop, ham]
    clear hq hkk ham
    by_cases h1 : a + 1 < s.size
    · by_cases h2 : s[a].toNat = 46
      · have hm := more_at s a h1 h2
        have b1 : (((s[a].toNat : Nat) : Int) == 46) = true := by rw [beq_iff_eq]; omega
        have c1 := fun W => refcls_any s ((a + 1 : Nat) : Int) hs W
        rw [clsI_in s (a + 1) h1] at c1
        dsimp only at c1
        have hlr := rest_len s (a + 1)
        clear h2
        rcases part_cases (rest s (a + 1)) with ⟨e, h0 | ⟨k1, k2, k3, k4⟩⟩ | ⟨_, c, e⟩ | ⟨_, c, e⟩ | ⟨_, c, e⟩ | ⟨_, c, e⟩
        · exact absurd h0 (rest_ne s _ h1)
        · rw [e] at hm
          have hm' : more (rest s a) = (0, 0) := hm
          have FIN := Lib.hid (grow_final f (rest s n) kk m p (.inr (by rw [HD.out, hm'])))
          have C1 := Lib.hid c1
          have b2 : (classI (rn (rest s (a + 1))) == 3) = false := by rw [beq_eq_false_iff_ne]; exact k2
          have b3 : (classI (rn (rest s (a + 1))) == 2) = false := by rw [beq_eq_false_iff_ne]; exact k1
          have b4 : (classI (rn (rest s (a + 1))) == 5) = false := by rw [beq_eq_false_iff_ne]; exact k3
          clear e hm hm' c1 k1 k2 k3 k4
          go_wp2_with fail
          refine (C1.out _).mono ?_
          rintro e w1 ⟨rfl, rfl⟩
          go_wp2_with fail
          go_ret2
          exact ⟨by rw [← HQ.out, FIN.out]; dsimp only; (first | rw [← HAM.out] | rw [show (n : Int) + (m : Int) = (a : Int) from by have := HAM.out; omega]); rfl, Below.refl _ _⟩
        · rw [e] at hm
          dsimp only at hm
          have hr := run_le nameB _ (rest s (a + 1)) (Nat.le_refl _)
          have hx := cut_bts s (a + 1) (run nameB (rest s (a + 1)))
          have c2 := fun W => refname_any s (a + 1) hs (by omega) W
          rw [c] at c1
          have c3 := fun g W h => reskind_any (bts ((rest s (a + 1)).take (run nameB (rest s (a + 1))))) g W h
          have hk : smallK (bts ((rest s (a + 1)).take (run nameB (rest s (a + 1))))) = if resB (bts ((rest s (a + 1)).take (run nameB (rest s (a + 1))))) = true then 9 else 1 := rfl
          rw [hk] at hm
          clear e hk c
          generalize bts ((rest s (a + 1)).take (run nameB (rest s (a + 1)))) = x at *
          generalize run nameB (rest s (a + 1)) = r at *
          have C1 := Lib.hid c1
          have C2 := Lib.hid c2
          have HX := Lib.hid hx
          have i0 : (0 : Int) ≤ (a : Int) + 1 := by omega
          have i1 : 0 ≤ (a : Int) + 1 + (r : Int) ∧ (a : Int) + 1 + (r : Int) ≤ (s.size : Int) := by omega
          have i2 : (a : Int) + 1 ≤ (a : Int) + 1 + (r : Int) := by omega
          have i3 : IntKind.i64.wrap ((a : Int) + 1) = (a : Int) + 1 := by rw [IntKind.wrap_i64]; omega
          have i4 : ((a : Int) + 1).toNat = a + 1 := by omega
          have i5 : ((a : Int) + 1 + (r : Int)).toNat = a + 1 + r := by omega
          cases h : resB x with
          | true =>
            rw [h] at hm c3
            have hm' : more (rest s a) = (0, 0) := hm
            have FIN := Lib.hid (grow_final f (rest s n) kk m p (.inr (by rw [HD.out, hm'])))
            have C3 := Lib.hid c3
            clear c1 c2 c3 hx h hm hm'
            go_wp2_with fail
            refine (C1.out _).mono ?_
            rintro e w1 ⟨rfl, rfl⟩
            go_wp2_with fail
            refine (C2.out _).mono ?_
            rintro e w1 ⟨rfl, rfl⟩
            go_wp2_with fail
            go_region_with (first | (go_at_call 25; refine (words_any _).mono ?_; rintro e w1 ⟨rfl, hr1, hb1, hl1⟩; have R1 := Lib.hid hr1; have HB1 := Lib.hid hb1; have HL1 := Lib.hid hl1; clear hr1 hb1 hl1) | (go_at_call 24; rw [HX.out]; refine (C3.out _ _ R1.out).mono ?_; rintro e w2 ⟨rfl, rfl⟩))
            all_goals go_wp2_with fail
            all_goals go_ret2
            all_goals exact ⟨by rw [← HQ.out, FIN.out]; dsimp only; (first | rw [← HAM.out] | rw [show (n : Int) + (m : Int) = (a : Int) from by have := HAM.out; omega]); rfl, ⟨HB1.out.os, HB1.out.tape, HB1.out.output, HB1.out.size, HB1.out.block⟩⟩
          | false =>
            rw [h] at hm c3
            have hm' : more (rest s a) = (3, 1 + r) := hm
            have hfin := grow_final (f - 1) (rest s n) 3 (m + (1 + r)) m (.inl (by decide))
            have hf1 : f = (f - 1) + 1 := by omega
            have hg := grow_next (f - 1) (rest s n) kk m p HKK.out (by rw [HD.out, hm']; dsimp only; decide)
            rw [← hf1, HD.out, hm'] at hg
            dsimp only at hg
            rw [hfin] at hg
            have FIN := Lib.hid hg
            have C3 := Lib.hid c3
            clear c1 c2 c3 hx h hm hm' hg hf1 hfin
            go_wp2_with fail
            refine (C1.out _).mono ?_
            rintro e w1 ⟨rfl, rfl⟩
            go_wp2_with fail
            refine (C2.out _).mono ?_
            rintro e w1 ⟨rfl, rfl⟩
            go_wp2_with fail
            go_region_with (first | (go_at_call 25; refine (words_any _).mono ?_; rintro e w1 ⟨rfl, hr1, hb1, hl1⟩; have R1 := Lib.hid hr1; have HB1 := Lib.hid hb1; have HL1 := Lib.hid hl1; clear hr1 hb1 hl1) | (go_at_call 24; rw [HX.out]; refine (C3.out _ _ R1.out).mono ?_; rintro e w2 ⟨rfl, rfl⟩))
            all_goals go_wp2_with fail
            all_goals go_ret2
            all_goals exact ⟨by rw [← HQ.out, FIN.out]; dsimp only; rw [← Nat.add_assoc, ← Nat.add_assoc, ← HAM.out]; rfl, ⟨HB1.out.os, HB1.out.tape, HB1.out.output, HB1.out.size, HB1.out.block⟩⟩
        · rw [e] at hm
          have hm' : more (rest s a) = (4, 1 + run nameB (rest s (a + 1))) := hm
          have hr := run_le nameB _ (rest s (a + 1)) (Nat.le_refl _)
          have hf1 : f = (f - 1) + 1 := by omega
          have hg := grow_next (f - 1) (rest s n) kk m p HKK.out (by rw [HD.out, hm']; dsimp only; decide)
          rw [← hf1, HD.out, hm'] at hg
          dsimp only at hg
          have c2 := fun W => refname_any s (a + 1) hs (by omega) W
          rw [c] at c1
          clear e c
          generalize run nameB (rest s (a + 1)) = r at *
          have C1 := Lib.hid c1
          have C2 := Lib.hid c2
          have HG := Lib.hid hg
          clear c1 c2 hm hm' hg
          go_wp2_with fail
          refine (C1.out _).mono ?_
          rintro e w1 ⟨rfl, rfl⟩
          go_wp2_with fail
          refine (C2.out _).mono ?_
          rintro e w1 ⟨rfl, rfl⟩
          go_wp2_with fail
          go_round
          case rel => exact ⟨4, a + 1 + r, m + (1 + r), m, f - 1, rfl, .inr rfl, by go_num, by have := HAM.out; omega, by omega, by rw [← HQ.out, HG.out], by omega⟩
          case measure => simp [intOf]; omega
        · rw [e] at hm
          dsimp only at hm
          have hr := run_le symP _ (rest s (a + 1)) (Nat.le_refl _)
          have hr2 := run_pos symP (rest s (a + 1)) (rest_ne s _ h1) (sym_of _ c)
          have hw := wd_pos (rest s (a + 1))
          have hx := cut_bts s (a + 1) (run symP (rest s (a + 1)))
          have c2 := fun W => refrun_any s (a + 1) hs (by omega) W
          rw [c] at c1
          have hz : 0 < (bts ((rest s (a + 1)).take (run symP (rest s (a + 1))))).size := by
            rw [← hx, Lib.size_eq, Lib.extract_data, List.length_take, Nat.add_sub_cancel_left]
            change 0 < min (run symP (rest s (a + 1))) (rest s (a + 1)).length
            omega
          have c3 := fun W => operator_any (bts ((rest s (a + 1)).take (run symP (rest s (a + 1))))) hz W
          have hk := symK_cases (bts ((rest s (a + 1)).take (run symP (rest s (a + 1)))))
          clear e c hz
          generalize symK (bts ((rest s (a + 1)).take (run symP (rest s (a + 1))))) = sk at *
          generalize bts ((rest s (a + 1)).take (run symP (rest s (a + 1)))) = x at *
          generalize run symP (rest s (a + 1)) = r at *
          have C1 := Lib.hid c1
          have C2 := Lib.hid c2
          have C3 := Lib.hid c3
          have HX := Lib.hid hx
          have i0 : (0 : Int) ≤ (a : Int) + 1 := by omega
          have i1 : 0 ≤ (a : Int) + 1 + (r : Int) ∧ (a : Int) + 1 + (r : Int) ≤ (s.size : Int) := by omega
          have i2 : (a : Int) + 1 ≤ (a : Int) + 1 + (r : Int) := by omega
          clear c1 c2 c3 hx
          rcases hk with rfl | rfl | rfl
          · have hm' : more (rest s a) = (0, 0) := hm
            have FIN := Lib.hid (grow_final f (rest s n) kk m p (.inr (by rw [HD.out, hm'])))
            clear hm hm'
            go_wp2_with fail
            refine (C1.out _).mono ?_
            rintro e w1 ⟨rfl, rfl⟩
            go_wp2_with fail
            refine (C2.out _).mono ?_
            rintro e w1 ⟨rfl, rfl⟩
            go_wp2_with fail
            rw [HX.out]
            refine (C3.out _).mono ?_
            rintro e w1 ⟨rfl, hb1⟩
            have HB1 := Lib.hid hb1
            clear hb1
            go_wp2_with fail
            go_ret2
            exact ⟨by rw [← HQ.out, FIN.out]; dsimp only; (first | rw [← HAM.out] | rw [show (n : Int) + (m : Int) = (a : Int) from by have := HAM.out; omega]); rfl, HB1.out⟩
          · have hm' : more (rest s a) = (8, 1 + r) := hm
            have hfin := grow_final (f - 1) (rest s n) 8 (m + (1 + r)) m (.inl (by decide))
            have hf1 : f = (f - 1) + 1 := by omega
            have hg := grow_next (f - 1) (rest s n) kk m p HKK.out (by rw [HD.out, hm']; dsimp only; decide)
            rw [← hf1, HD.out, hm'] at hg
            dsimp only at hg
            rw [hfin] at hg
            have FIN := Lib.hid hg
            clear hm hm' hg hf1 hfin
            go_wp2_with fail
            refine (C1.out _).mono ?_
            rintro e w1 ⟨rfl, rfl⟩
            go_wp2_with fail
            refine (C2.out _).mono ?_
            rintro e w1 ⟨rfl, rfl⟩
            go_wp2_with fail
            rw [HX.out]
            refine (C3.out _).mono ?_
            rintro e w1 ⟨rfl, hb1⟩
            have HB1 := Lib.hid hb1
            clear hb1
            go_wp2_with fail
            go_ret2
            exact ⟨by rw [← HQ.out, FIN.out]; dsimp only; rw [← Nat.add_assoc, ← Nat.add_assoc, ← HAM.out]; rfl, HB1.out⟩
          · have hm' : more (rest s a) = (7, 1 + r) := hm
            have hfin := grow_final (f - 1) (rest s n) 7 (m + (1 + r)) m (.inl (by decide))
            have hf1 : f = (f - 1) + 1 := by omega
            have hg := grow_next (f - 1) (rest s n) kk m p HKK.out (by rw [HD.out, hm']; dsimp only; decide)
            rw [← hf1, HD.out, hm'] at hg
            dsimp only at hg
            rw [hfin] at hg
            have FIN := Lib.hid hg
            clear hm hm' hg hf1 hfin
            go_wp2_with fail
            refine (C1.out _).mono ?_
            rintro e w1 ⟨rfl, rfl⟩
            go_wp2_with fail
            refine (C2.out _).mono ?_
            rintro e w1 ⟨rfl, rfl⟩
            go_wp2_with fail
            rw [HX.out]
            refine (C3.out _).mono ?_
            rintro e w1 ⟨rfl, hb1⟩
            have HB1 := Lib.hid hb1
            clear hb1
            go_wp2_with fail
            go_ret2
            exact ⟨by rw [← HQ.out, FIN.out]; dsimp only; rw [← Nat.add_assoc, ← Nat.add_assoc, ← HAM.out]; rfl, HB1.out⟩
        · rw [e] at hm
          have hm' : more (rest s a) = (0, 0) := hm
          have FIN := Lib.hid (grow_final f (rest s n) kk m p (.inr (by rw [HD.out, hm'])))
          rw [c] at c1
          have C1 := Lib.hid c1
          clear e hm hm' c1 c
          go_wp2_with fail
          refine (C1.out _).mono ?_
          rintro e w1 ⟨rfl, rfl⟩
          go_wp2_with fail
          go_ret2
          exact ⟨by rw [← HQ.out, FIN.out]; dsimp only; (first | rw [← HAM.out] | rw [show (n : Int) + (m : Int) = (a : Int) from by have := HAM.out; omega]); rfl, Below.refl _ _⟩
      · have hm := more_off s a (.inr ⟨by omega, h2⟩)
        have FIN := Lib.hid (grow_final f (rest s n) kk m p (.inr (by rw [HD.out, hm])))
        have b1 : (((s[a].toNat : Nat) : Int) == 46) = false := by rw [beq_eq_false_iff_ne]; omega
        clear hm h2
        go_wp2_with fail
        go_ret2
        exact ⟨by rw [← HQ.out, FIN.out]; dsimp only; (first | rw [← HAM.out] | rw [show (n : Int) + (m : Int) = (a : Int) from by have := HAM.out; omega]); rfl, Below.refl _ _⟩
    · have hm := more_off s a (.inl h1)
      have FIN := Lib.hid (grow_final f (rest s n) kk m p (.inr (by rw [HD.out, hm])))
      clear hm
      go_wp2_with fail
      go_ret2
      exact ⟨by rw [← HQ.out, FIN.out]; dsimp only; (first | rw [← HAM.out] | rw [show (n : Int) + (m : Int) = (a : Int) from by have := HAM.out; omega]); rfl, Below.refl _ _⟩

/-- The document's own Scan answers what scanI says. -/
theorem scanI_in (s : ByteArray) (n : Nat) (h : n < s.size) : scanI s (n : Int) = lexI n (scan (rest s n)) := by
  unfold scanI
  rw [if_pos (by omega), Int.toNat_natCast]
theorem scanI_out (s : ByteArray) (i : Int) (h : ¬ (0 ≤ i ∧ i < s.size)) : scanI s i = (0, 0, 0) := by
  unfold scanI
  split
  · rename_i q
    rw [rest_nil s _ (by omega)]
    rfl
  · rfl
set_option maxHeartbeats 2000000 in
theorem refscan_any (s : ByteArray) (i : Int) (hs : s.size ≤ 1125899906842624) (w : World) :
    Calls Try.prog 11 #[.string s, .int .i64 i] w fun e w' => e = .returned (.tuple #[.int .i64 (scanI s i).1, .int .i64 (scanI s i).2.1]) ∧ Below w.heap.size w w' := by
  by_cases hin : 0 ≤ i ∧ i < s.size
  · obtain ⟨n, rfl⟩ := Int.eq_ofNat_of_zero_le (a := i) hin.1
    have hn : n < s.size := by omega
    clear hin
    rw [scanI_in s n hn]
    have c1 := fun W => refcls_any s n hs W
    rw [clsI_in s n hn] at c1
    dsimp only at c1
    rcases part_cases (rest s n) with ⟨e, h0 | ⟨k1, k2, k3, k4⟩⟩ | ⟨_, c, e⟩ | ⟨_, c, e⟩ | ⟨_, c, e⟩ | ⟨_, c, e⟩
    · exact absurd h0 (rest_ne s n hn)
    · have hr := scan_none (rest s n) (by rw [e])
      have HR : Hid (lexI n (scan (rest s n)) = (0, 0, 0)) := by unfold Hid; rw [hr]; rfl
      have b1 : (classI (rn (rest s n)) == 6) = false := by rw [beq_eq_false_iff_ne]; exact k4
      have b2 : (classI (rn (rest s n)) == 5) = false := by rw [beq_eq_false_iff_ne]; exact k3
      have b3 : (classI (rn (rest s n)) == 2) = false := by rw [beq_eq_false_iff_ne]; exact k1
      have b4 : (classI (rn (rest s n)) == 3) = false := by rw [beq_eq_false_iff_ne]; exact k2
      have C1 := Lib.hid c1
      clear e hr c1 k1 k2 k3 k4
      go_enter Try.func11, Try.ntmps11
      go_wp2_with fail
      refine (C1.out _).mono ?_
      rintro e w1 ⟨rfl, rfl⟩
      go_wp2_with fail
      go_ret2
      exact ⟨by rw [HR.out]; rfl, Below.refl _ _⟩
    · have hk := smallK_cases (bts ((rest s n).take (run nameB (rest s n))))
      have h1 := Lex.first (L := rest s n) (by rw [e]; dsimp only; omega)
      have hsc := scan_of_lex h1 (.inl (by rw [e]; dsimp only; omega))
      rw [e] at hsc
      have hr : lexI n (scan (rest s n)) = (smallK (bts ((rest s n).take (run nameB (rest s n)))), ((n + run nameB (rest s n) : Nat) : Int), 0) := by
        rw [hsc]
        unfold lexI
        rw [if_neg (by dsimp only; omega)]
        rfl
      rw [hr]
      exact refscan_small s n hs hn c w
    · have hr : lexI n (scan (rest s n)) = ((scan (rest s n)).1, ((n + (scan (rest s n)).2.1 : Nat) : Int), if (scan (rest s n)).2.2 = 0 then 0 else ((n + (scan (rest s n)).2.2 : Nat) : Int)) := by
        have hb := (scan_lex (rest s n) (by rw [e]; dsimp only; decide)).1.bd
        unfold lexI
        rw [if_neg hb.1]
      rw [hr]
      rw [c] at c1
      have C1 := Lib.hid c1
      have G : Hid (∀ W, Calls Try.prog 26 #[.string s, .int .i64 (n : Int)] W fun e w' => e = .returned (.tuple #[.int .i64 (scan (rest s n)).1, .int .i64 ((n + (scan (rest s n)).2.1 : Nat) : Int)]) ∧ Below W.heap.size W w') := fun W => refgreat_any s n hs hn c W
      clear e hr c1 c
      go_enter Try.func11, Try.ntmps11
      go_wp2_with fail
      refine (C1.out _).mono ?_
      rintro e w1 ⟨rfl, rfl⟩
      go_wp2_with fail
      refine (G.out _).mono ?_
      rintro e w1 ⟨rfl, hb1⟩
      have HB1 := Lib.hid hb1
      clear hb1
      go_wp2_with fail
      go_ret2
      exact ⟨rfl, HB1.out⟩
    · have hk := symK_cases (bts ((rest s n).take (run symP (rest s n))))
      have h1 := Lex.first (L := rest s n) (by rw [e]; dsimp only; omega)
      have hsc := scan_of_lex h1 (.inl (by rw [e]; dsimp only; omega))
      rw [e] at hsc
      have hrl := run_le symP _ (rest s n) (Nat.le_refl _)
      have hr2 := run_pos symP (rest s n) (rest_ne s n hn) (sym_of _ c)
      have hw := wd_pos (rest s n)
      have hll := rest_len s n
      have hr : lexI n (scan (rest s n)) = (symK (bts ((rest s n).take (run symP (rest s n)))), ((n + run symP (rest s n) : Nat) : Int), 0) := by
        rw [hsc]
        unfold lexI
        rw [if_neg (by dsimp only; omega)]
        rfl
      have hx := cut_bts s n (run symP (rest s n))
      have hz : 0 < (bts ((rest s n).take (run symP (rest s n)))).size := by
        rw [← hx, Lib.size_eq, Lib.extract_data, List.length_take, Nat.add_sub_cancel_left]
        change 0 < min (run symP (rest s n)) (rest s n).length
        omega
      have c2 := fun W => refrun_any s n hs (by omega) W
      have c3 := fun W => operator_any (bts ((rest s n).take (run symP (rest s n)))) hz W
      rw [hr]
      rw [c] at c1
      clear hr hsc h1 e c hk hz hw hr2
      generalize symK (bts ((rest s n).take (run symP (rest s n)))) = sk at *
      generalize bts ((rest s n).take (run symP (rest s n))) = x at *
      generalize run symP (rest s n) = r at *
      have C1 := Lib.hid c1
      have C2 := Lib.hid c2
      have C3 := Lib.hid c3
      have HX := Lib.hid hx
      have i0 : (0 : Int) ≤ (n : Int) := by omega
      have i1 : 0 ≤ (n : Int) + (r : Int) ∧ (n : Int) + (r : Int) ≤ (s.size : Int) := by omega
      clear c1 c2 c3 hx
      go_enter Try.func11, Try.ntmps11
      go_wp2_with fail
      refine (C1.out _).mono ?_
      rintro e w1 ⟨rfl, rfl⟩
      go_wp2_with fail
      refine (C2.out _).mono ?_
      rintro e w1 ⟨rfl, rfl⟩
      go_wp2_with fail
      rw [HX.out]
      refine (C3.out _).mono ?_
      rintro e w1 ⟨rfl, hb1⟩
      have HB1 := Lib.hid hb1
      clear hb1
      go_wp2_with fail
      go_ret2
      exact ⟨rfl, HB1.out⟩
    · have h1 := Lex.first (L := rest s n) (by rw [e]; dsimp only; decide)
      have hsc := scan_of_lex h1 (.inl (by rw [e]; dsimp only; decide))
      have hwd := (ascii_rn (rest s n) (spec_ascii _ c)).1
      rw [e, hwd] at hsc
      have HR : Hid (lexI n (scan (rest s n)) = (15, (n : Int) + 1, 0)) := by
        unfold Hid
        rw [hsc]
        rfl
      rw [c] at c1
      have C1 := Lib.hid c1
      clear c1 h1 hsc e c hwd
      go_enter Try.func11, Try.ntmps11
      go_wp2_with fail
      refine (C1.out _).mono ?_
      rintro e w1 ⟨rfl, rfl⟩
      go_wp2_with fail
      go_ret2
      exact ⟨by rw [HR.out]; rfl, Below.refl _ _⟩
  · have HR := Lib.hid (scanI_out s i hin)
    have c1 := fun W => refcls_any s i hs W
    have hcl : clsI s i = (0, 0) := by unfold clsI; rw [if_neg hin]
    rw [hcl] at c1
    have C1 := Lib.hid c1
    clear c1 hcl hin
    go_enter Try.func11, Try.ntmps11
    go_wp2_with fail
    refine (C1.out _).mono ?_
    rintro e w1 ⟨rfl, rfl⟩
    go_wp2_with fail
    go_ret2
    exact ⟨by rw [HR.out]; rfl, Below.refl _ _⟩
end Go.Proofs.Ytkabgeimcpkpgaa.Wrd
