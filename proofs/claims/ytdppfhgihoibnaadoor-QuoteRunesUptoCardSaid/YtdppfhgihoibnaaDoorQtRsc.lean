/-
  The contracts of the document's own Scan and Runes; the walks of QuoteScans and QuoteRunes. Conditions: the string has at most 2^20 bytes; the library's table of powers of ten and the program's list of names stand.
-/
import Derived.Test.YtdppfhgihoibnaaDoorQtRrc
import Derived.Test.YtdppfhgihoibnaaDoorQtLaw
namespace Go.Proofs.YtdppfhgihoibnaaDoor.Qt
open Go.RowKit Gly
open Wrd (rn wd)
set_option linter.unusedSimpArgs false
set_option linter.unusedVariables false

set_option maxRecDepth 20000 in
theorem refread_none (s : ByteArray) (i : Int) (hs : s.size ≤ 1125899906842624) (hq : (hdI s i == 34 || hdI s i == 39) = false) (w : World) :
    Calls Tryd.prog 23 #[.string s, .int .i64 i] w (RdOut 0 [] 0 0 w) := by
  by_cases h0 : i < 0
  · have x3 : decide (i < 0) = true := decide_eq_true h0
    clear hq h0
    go_enter Tryd.func23, Tryd.ntmps23
    go_wp2_with fail
    (try simp only [Exit.inBlock, Exit.then]); refine bodyPost_ret (Go.Proofs.YtdppfhgihoibnaaDoor.Qt.results_tmp4 rfl _ _ _) rfl ?_
    exact ⟨.slice none 0 0, rfl, nilR _ _, Below.refl _ _⟩
  · obtain ⟨n, rfl⟩ := Int.eq_ofNat_of_zero_le (by omega : 0 ≤ i)
    have x3 : decide ((n : Int) < 0) = false := decide_eq_false (by omega)
    by_cases hn : n < s.size
    · have x4 : decide ((s.size : Int) ≤ (n : Int)) = false := decide_eq_false (by omega)
      have x5 : decide (s.size ≤ n) = false := decide_eq_false (by omega)
      rw [hdI_nat, hd_rest s n hn, Bool.or_eq_false_iff, beq_eq_false_iff_ne, beq_eq_false_iff_ne] at hq
      have x1 : (((s[n].toNat : Nat) : Int) != 34) = true := by rw [bne_iff_ne]; omega
      have x2 : (((s[n].toNat : Nat) : Int) != 39) = true := by rw [bne_iff_ne]; omega
      clear hq h0
      go_enter Tryd.func23, Tryd.ntmps23
      go_wp2_with fail
      (try simp only [Exit.inBlock, Exit.then]); refine bodyPost_ret (Go.Proofs.YtdppfhgihoibnaaDoor.Qt.results_tmp4 rfl _ _ _) rfl ?_
      exact ⟨.slice none 0 0, rfl, nilR _ _, Below.refl _ _⟩
    · have x4 : decide ((s.size : Int) ≤ (n : Int)) = true := decide_eq_true (by omega)
      have x5 : decide (s.size ≤ n) = true := decide_eq_true (by omega)
      clear hq h0 hn
      go_enter Tryd.func23, Tryd.ntmps23
      go_wp2_with fail
      (try simp only [Exit.inBlock, Exit.then]); refine bodyPost_ret (Go.Proofs.YtdppfhgihoibnaaDoor.Qt.results_tmp4 rfl _ _ _) rfl ?_
      exact ⟨.slice none 0 0, rfl, nilR _ _, Below.refl _ _⟩
theorem refread_any (s : ByteArray) (n : Nat) (hs : s.size ≤ 1125899906842624) (hn : n < s.size) (hq : quoted (rest s n) = true) (hl : (chs (readL (rest s n)).ps).length ≤ 17592186044416) (w : World) :
    Calls Tryd.prog 23 #[.string s, .int .i64 (n : Int)] w (RdOut (kindQ (rest s n)) (if (readL (rest s n)).err = 0 then chs (readL (rest s n)).ps else []) (n + 1 + (readL (rest s n)).pos) (readL (rest s n)).err w) := by
  have hd1 : (rest s n).drop 1 = rest s (n + 1) := rest_drop s n 1
  have hh := hd_rest s n hn
  rcases quoted_is _ hq with q | q
  · have hR : readL (rest s n) = txtL (s.size - n) (rest s (n + 1)) := by
      unfold readL
      rw [if_neg (by omega), hd1, rest_len]
    have hK : kindQ (rest s n) = if (readL (rest s n)).err = 0 then 14 else 0 := by
      unfold kindQ
      rw [if_neg (show ¬ hd (rest s n) = 39 by omega)]
    rw [hK]
    rw [hR] at hl ⊢
    exact refread_text s n (s.size - n) hs hn (by omega) (by omega) _ _ _ rfl rfl rfl hl w
  · have hR : readL (rest s n) = chrL (rest s (n + 1)) := by
      unfold readL
      rw [if_pos q, hd1]
    have hK : kindQ (rest s n) = if (readL (rest s n)).err = 0 then 13 else 0 := by
      unfold kindQ
      rw [if_pos q]
    rw [hK, hR]
    have h39 : s[n].toNat = 39 := by omega
    by_cases h1 : hd (rest s (n + 1)) = 39
    · have hC : chrL (rest s (n + 1)) = ⟨[], 0, 50⟩ := by unfold chrL; rw [if_pos h1]
      rw [hC]
      have hn1 : n + 1 < s.size := by
        rcases Nat.lt_or_ge (n + 1) s.size with h | h
        · exact h
        · rw [hd_rest_out s _ h] at h1
          exact absurd h1 (by decide)
      have h1' := h1
      rw [hd_rest s (n + 1) hn1] at h1'
      exact refread_c39 s n hs hn h39 hn1 h1' w
    · have c1 := fun W => one_any s (n + 1) false hs (by omega) W
      rw [show ((n + 1 : Nat) : Int) = (n : Int) + 1 by omega] at c1
      unfold oneA at c1
      have hC : chrL (rest s (n + 1)) = match pieceL (rest s (n + 1)) with
        | .error e => ⟨[], 0, e⟩
        | .ok p => if p.form ≠ 0 then ⟨[], 0, 51⟩ else if hd ((rest s (n + 1)).drop p.bytes.length) = 39 then ⟨[p], p.bytes.length + 1, 0⟩ else ⟨[], p.bytes.length, 50⟩ := by
        show (if hd (rest s (n + 1)) = 39 then _ else _) = _
        rw [if_neg h1]
        rfl
      cases hpc : pieceL (rest s (n + 1)) with
      | error y =>
        rw [hpc] at c1 hC
        dsimp only at c1 hC
        have hy := piece_err _ _ hpc
        rw [hC]
        dsimp only
        rw [if_neg (by omega), if_neg (by omega)]
        exact refread_cbad s n hs hn h39 h1 y (by rw [bne_iff_ne]; omega) (fun W => c1 W) w
      | ok p =>
        rw [hpc] at c1 hC
        dsimp only at c1 hC
        by_cases h0 : p.form ≠ 0
        · rw [if_pos ⟨rfl, h0⟩] at c1
          rw [if_pos h0] at hC
          rw [hC]
          dsimp only
          rw [if_neg (by decide), if_neg (by decide)]
          exact refread_cbad s n hs hn h39 h1 51 (by decide) (fun W => c1 W) w
        · have h0' : p.form = 0 := by omega
          rw [if_neg (fun h => h0 h.2), if_pos h0'] at c1
          rw [if_neg h0, rest_drop] at hC
          obtain ⟨l1, l2, l3⟩ := piece_len _ _ hpc
          rw [rest_len] at l2
          have c := refread_cone s n hs hn h39 h1 p.num (n + 1 + p.bytes.length) (by omega) (by omega) (fun W => c1 W) w
          by_cases h3 : hd (rest s (n + 1 + p.bytes.length)) = 39
          · rw [if_pos h3] at c hC
            have e : chs [p] = [p.num] := by rw [chs_cons, if_pos h0']; rfl
            rw [hC]
            dsimp only
            rw [if_pos rfl, if_pos rfl, e]
            exact c
          · rw [if_neg h3] at c hC
            rw [hC]
            exact c
theorem refscan_any (s : ByteArray) (i : Int) (hs : s.size ≤ 17592186044415) (w : World) :
    Calls Tryd.prog 11 #[.string s, .int .i64 i] w fun e w' => e = .returned (.tuple #[.int .i64 (scanI s i).1, .int .i64 (scanI s i).2.1, .int .i64 (scanI s i).2.2]) ∧ Below w.heap.size w w' := by
  have go : ∀ (k E x : Int) (Y : List Nat), (Hid (∀ W, Calls Tryd.prog 23 #[.string s, .int .i64 i] W fun e w' => ∃ v, e = .returned (.tuple #[.int .i64 k, v, .int .i64 E, .int .i64 x]) ∧ Ints w' W.heap.size v Y ∧ Below W.heap.size W w')) →
      Calls Tryd.prog 11 #[.string s, .int .i64 i] w fun e w' => e = .returned (.tuple #[.int .i64 k, .int .i64 E, .int .i64 x]) ∧ Below w.heap.size w w' := by
    intro k E x Y C
    go_enter Tryd.func11, Tryd.ntmps11
    go_wp2_with fail
    refine (C.out _).mono ?_
    rintro e w1 ⟨v, rfl, h1, h2⟩
    have HB := Lib.hid h2
    clear h1 h2
    go_wp2_with fail
    go_ret3
    exact ⟨rfl, HB.out⟩
  cases hq : (hdI s i == 34 || hdI s i == 39) with
  | false =>
    have e : scanI s i = (0, 0, 0) := by
      unfold scanI
      split
      · rename_i h0
        unfold scanL quoted
        unfold hdI at hq
        rw [if_pos h0] at hq
        rw [hq]
        rfl
      · rfl
    rw [e]
    exact go 0 0 0 [] (fun W => refread_none s i (by omega) hq W)
  | true =>
    have h0 : 0 ≤ i := by
      rcases Int.lt_or_le i 0 with h | h
      · unfold hdI at hq
        rw [if_neg (by omega)] at hq
        exact absurd hq (by decide)
      · exact h
    obtain ⟨n, rfl⟩ := Int.eq_ofNat_of_zero_le h0
    rw [hdI_nat] at hq
    have hn : n < s.size := by
      rcases Nat.lt_or_ge n s.size with h | h
      · exact h
      · rw [hd_rest_out s n h] at hq
        exact absurd hq (by decide)
    have e : scanI s (n : Int) = (kindQ (rest s n), ((n + 1 + (readL (rest s n)).pos : Nat) : Int), (readL (rest s n)).err) := by
      unfold scanI scanL
      rw [if_pos h0, Int.toNat_natCast, if_pos (show quoted (rest s n) = true from hq)]
      rfl
    rw [e]
    have hcr := count_read (rest s n)
    rw [rest_len] at hcr
    exact go _ _ _ _ (fun W => refread_any s n (by omega) hn hq (by omega) W)
/-- The answer of the document's own Runes: the error, and the row. -/
def RunesRef (L : List UInt8) (w : World) (e : Ending) (w' : World) : Prop := ∃ v, e = .returned (.tuple #[v, .int .i64 (wholeL L)]) ∧ Ints w' w.heap.size v (runesL L) ∧ Below w.heap.size w w'
theorem refrunes_bad (s : ByteArray) (k E x : Int) (Y : List Nat) (hx : (x != 0) = true) (C : Hid (∀ W, Calls Tryd.prog 23 #[.string s, .int .i64 0] W fun e w' => ∃ v, e = .returned (.tuple #[.int .i64 k, v, .int .i64 E, .int .i64 x]) ∧ Ints w' W.heap.size v Y ∧ Below W.heap.size W w')) (w : World) :
    Calls Tryd.prog 14 #[.string s] w fun e w' => e = .returned (.tuple #[.slice none 0 0, .int .i64 x]) ∧ Below w.heap.size w w' := by
  go_enter Tryd.func14, Tryd.ntmps14
  go_wp2_with fail
  refine (C.out _).mono ?_
  rintro e w1 ⟨v, rfl, h1, h2⟩
  have HB := Lib.hid h2
  clear h1 h2
  go_wp2_with fail
  go_ret2
  exact ⟨rfl, HB.out⟩
theorem refrunes_none (s : ByteArray) (E : Int) (hs : s.size ≤ 1125899906842624) (Y : List Nat) (C : Hid (∀ W, Calls Tryd.prog 23 #[.string s, .int .i64 0] W fun e w' => ∃ v, e = .returned (.tuple #[.int .i64 0, v, .int .i64 E, .int .i64 0]) ∧ Ints w' W.heap.size v Y ∧ Below W.heap.size W w')) (w : World) :
    Calls Tryd.prog 14 #[.string s] w fun e w' => e = .returned (.tuple #[.slice none 0 0, .int .i64 50]) ∧ Below w.heap.size w w' := by
  go_enter Tryd.func14, Tryd.ntmps14
  go_wp2_with fail
  refine (C.out _).mono ?_
  rintro e w1 ⟨v, rfl, h1, h2⟩
  have HB := Lib.hid h2
  clear h1 h2
  go_wp2_with fail
  go_ret2
  exact ⟨rfl, HB.out⟩
theorem refrunes_long (s : ByteArray) (k E : Int) (hk : (k == 0) = false) (hE : (E != (s.size : Int)) = true) (hs : s.size ≤ 1125899906842624) (Y : List Nat) (C : Hid (∀ W, Calls Tryd.prog 23 #[.string s, .int .i64 0] W fun e w' => ∃ v, e = .returned (.tuple #[.int .i64 k, v, .int .i64 E, .int .i64 0]) ∧ Ints w' W.heap.size v Y ∧ Below W.heap.size W w')) (w : World) :
    Calls Tryd.prog 14 #[.string s] w fun e w' => e = .returned (.tuple #[.slice none 0 0, .int .i64 50]) ∧ Below w.heap.size w w' := by
  go_enter Tryd.func14, Tryd.ntmps14
  go_wp2_with fail
  refine (C.out _).mono ?_
  rintro e w1 ⟨v, rfl, h1, h2⟩
  have HB := Lib.hid h2
  clear h1 h2
  go_wp2_with fail
  go_ret2
  exact ⟨rfl, HB.out⟩
theorem refrunes_ok (s : ByteArray) (k E : Int) (hk : (k == 0) = false) (hE : (E != (s.size : Int)) = false) (hs : s.size ≤ 1125899906842624) (Y : List Nat) (C : Hid (∀ W, Calls Tryd.prog 23 #[.string s, .int .i64 0] W fun e w' => ∃ v, e = .returned (.tuple #[.int .i64 k, v, .int .i64 E, .int .i64 0]) ∧ Ints w' W.heap.size v Y ∧ Below W.heap.size W w')) (w : World) :
    Calls Tryd.prog 14 #[.string s] w fun e w' => ∃ v, e = .returned (.tuple #[v, .int .i64 0]) ∧ Ints w' w.heap.size v Y ∧ Below w.heap.size w w' := by
  go_enter Tryd.func14, Tryd.ntmps14
  go_wp2_with fail
  refine (C.out _).mono ?_
  rintro e w1 ⟨v, rfl, h1, h2⟩
  have HB := Lib.hid h2
  have HI := Lib.hid h1
  clear h1 h2
  go_wp2_with fail
  go_ret2
  exact ⟨v, rfl, HI.out, HB.out⟩
theorem refrunes_any (s : ByteArray) (hs : s.size ≤ 17592186044415) (w : World) :
    Calls Tryd.prog 14 #[.string s] w (RunesRef (rest s 0) w) := by
  have bad : ∀ (x : Int), wholeL (rest s 0) = x → x ≠ 0 → (Calls Tryd.prog 14 #[.string s] w fun e w' => e = .returned (.tuple #[.slice none 0 0, .int .i64 x]) ∧ Below w.heap.size w w') → Calls Tryd.prog 14 #[.string s] w (RunesRef (rest s 0) w) := by
    intro x h1 h2 c
    refine c.mono ?_
    rintro e w' ⟨rfl, hb⟩
    refine ⟨_, by rw [h1], ?_, hb⟩
    unfold runesL
    rw [if_neg (by rw [h1]; exact h2)]
    exact nilR _ _
  cases hq : quoted (rest s 0) with
  | false =>
    have hw : wholeL (rest s 0) = 50 := by unfold wholeL; rw [if_neg (by rw [hq]; decide)]
    exact bad 50 hw (by decide) (refrunes_none s 0 (by omega) [] (fun W => refread_none s 0 (by omega) (by rw [show (0 : Int) = ((0 : Nat) : Int) from rfl, hdI_nat]; exact hq) W) w)
  | true =>
    have hn : 0 < s.size := by
      rcases Nat.lt_or_ge 0 s.size with h | h
      · exact h
      · unfold quoted at hq
        rw [hd_rest_out s 0 h] at hq
        exact absurd hq (by decide)
    have hcr := count_read (rest s 0)
    rw [rest_len] at hcr
    have c := fun W => refread_any s 0 (by omega) hn hq (by omega) W
    have hw : wholeL (rest s 0) = if (readL (rest s 0)).err = 0 ∧ 1 + (readL (rest s 0)).pos < s.size then 50 else (readL (rest s 0)).err := by
      unfold wholeL
      rw [if_pos hq, rest_len]
      rfl
    by_cases he : (readL (rest s 0)).err = 0
    · have a5 := (read_alone _ hq he).2.2.2.2
      rw [rest_len] at a5
      have hk : (kindQ (rest s 0) == 0) = false := by
        unfold kindQ
        rw [if_pos he]
        split <;> rfl
      rw [he, if_pos rfl] at c
      by_cases hp : 1 + (readL (rest s 0)).pos < s.size
      · rw [if_pos ⟨he, hp⟩] at hw
        exact bad 50 hw (by decide) (refrunes_long s _ _ hk (by rw [bne_iff_ne]; omega) (by omega) _ (fun W => c W) w)
      · rw [if_neg (fun h => hp h.2), he] at hw
        refine (refrunes_ok s _ _ hk (by rw [bne_eq_false_iff_eq]; omega) (by omega) _ (fun W => c W) w).mono ?_
        rintro e w' ⟨v, rfl, h1, h2⟩
        refine ⟨v, by rw [hw], ?_, h2⟩
        unfold runesL
        rw [if_pos hw]
        exact h1
    · rw [if_neg (fun h => he h.1)] at hw
      exact bad _ hw he (refrunes_bad s _ _ _ _ (by rw [bne_iff_ne]; exact he) (fun W => c W) w)

/-- QuoteScans. -/
theorem scans_three (s : ByteArray) (i a b c : Int) (w : World) (ht : Tab w)
    (C1 : Hid (∀ W, Nam W → Calls Tryd.prog 10 #[.string s, .int .i64 i] W fun e w' => e = .returned (.tuple #[.int .i64 a, .int .i64 b, .int .i64 c]) ∧ Below W.heap.size W w'))
    (C2 : Hid (∀ W, Calls Tryd.prog 11 #[.string s, .int .i64 i] W fun e w' => e = .returned (.tuple #[.int .i64 a, .int .i64 b, .int .i64 c]) ∧ Below W.heap.size W w')) :
    Calls Tryd.prog 3 #[.string s, .int .i64 i] w fun e w' => e = .returned (.bool true) ∧ Below w.heap.size w w' := by
  have HT := Lib.hid ht
  have A := Lib.hid (fun W (h : Tab W) => awake_any W h)
  clear ht
  go_enter Tryd.func3, Tryd.ntmps3
  go_wp2_with fail
  refine (C1.out _ HT.out.2).mono ?_
  rintro e w1 ⟨rfl, hb1⟩
  have HB1 := Lib.hid hb1
  clear hb1
  go_wp2_with fail
  refine (C2.out _).mono ?_
  rintro e w2 ⟨rfl, hb2⟩
  have HB2 := Lib.hid (HB1.out.trans (hb2.mono HB1.out.size))
  clear hb2
  go_wp2_with fail
  refine (A.out _ (HT.out.below HB2.out (Nat.le_refl _))).mono ?_
  rintro e w3 ⟨rfl, hb3⟩
  have HB3 := Lib.hid (HB2.out.trans (hb3.mono HB2.out.size))
  clear hb3
  go_wp2_with fail
  go_ret
  exact ⟨rfl, HB3.out⟩
theorem scans_walk (s : ByteArray) (i : Int) (hs : s.size ≤ 1048576) (hi : (Lit.int .i64 i).wf = true) (w : World) (ht : Tab w) :
    Calls Tryd.prog 3 #[.string s, .int .i64 i] w fun e w' => e = .returned (.bool true) ∧ Below w.heap.size w w' :=
  scans_three s i _ _ _ w ht (fun W h => Scan_any s i (by omega) W h) (fun W => refscan_any s i (by omega) W)
/-- QuoteRunes. -/
theorem runes_walk (s : ByteArray) (hs : s.size ≤ 1048576) (w : World) (ht : Tab w) :
    Calls Tryd.prog 4 #[.string s] w fun e w' => e = .returned (.bool true) ∧ Below w.heap.size w w' := by
  have HT := Lib.hid ht
  have A := Lib.hid (fun W (h : Tab W) => awake_any W h)
  have hcr := count_read (rest s 0)
  rw [rest_len] at hcr
  have hzl : ((runesL (rest s 0)).map fun (x : Nat) => (x : Int)).length ≤ 140737488355328 := by
    rw [List.length_map]
    unfold runesL
    split
    · omega
    · simp
  have C1 := Lib.hid (fun W (h : Nam W) => Runes_any s (by omega) (by omega) W h)
  have C2 := Lib.hid (fun W => refrunes_any s (by omega) W)
  clear hcr ht
  unfold RunesOut at C1
  unfold RunesRef at C2
  generalize wholeL (rest s 0) = x at *
  generalize runesL (rest s 0) = Y at *
  go_enter Tryd.func4, Tryd.ntmps4
  go_wp2_with fail
  refine (C1.out _ HT.out.2).mono ?_
  rintro e w1 ⟨v1, rfl, i1, hb1⟩
  have HB1 := Lib.hid hb1
  have I1 := Lib.hid i1.arg
  clear hb1 i1
  go_wp2_with fail
  refine (C2.out _).mono ?_
  rintro e w2 ⟨v2, rfl, i2, hb2⟩
  have HB2 := Lib.hid (HB1.out.trans (hb2.mono HB1.out.size))
  have J1 := Lib.hid (I1.out.below hb2)
  have I2 := Lib.hid i2.arg
  clear hb2 i2
  go_wp2_with fail
  refine (A.out _ (HT.out.below HB2.out (Nat.le_refl _))).mono ?_
  rintro e w3 ⟨rfl, hb3⟩
  have HB3 := Lib.hid (HB2.out.trans (hb3.mono HB2.out.size))
  have K1 := Lib.hid (J1.out.below hb3)
  have K2 := Lib.hid (I2.out.below hb3)
  clear hb3
  go_wp2_with fail
  have S := Same_any v1 v2 _ _ hzl w3 K1.out K2.out
  rw [decide_eq_true rfl] at S
  refine S.mono ?_
  rintro e w4 ⟨rfl, hb4⟩
  have HB4 := Lib.hid (HB3.out.trans (hb4.mono HB3.out.size))
  clear hb4 S
  go_wp2_with fail
  go_ret
  exact ⟨rfl, HB4.out⟩
end Go.Proofs.YtdppfhgihoibnaaDoor.Qt
