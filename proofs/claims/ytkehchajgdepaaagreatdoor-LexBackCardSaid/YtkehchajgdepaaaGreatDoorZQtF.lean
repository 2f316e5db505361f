/-
  The contracts of the document's own Read (a character, none), Scan, Runes. Conditions: the string has at most 2^50 bytes; its characters are at most 2^44.
-/
import Derived.Test.YtkehchajgdepaaaGreatDoorZQtE
import Derived.Test.YtkehchajgdepaaaGreatDoorZQtD
namespace Go.Proofs.YtkehchajgdepaaaGreatDoor.Qt
open Go.RowKit Gly
open Wrd (rn wd)
set_option linter.unusedSimpArgs false
set_option linter.unusedVariables false

theorem nilR (w : World) (B : Nat) : Ints w B (.slice none 0 0) [] := World.ownsRow_nil _ _ _ _
set_option maxRecDepth 20000 in
theorem refread_c39 (s : ByteArray) (n : Nat) (hs : s.size ≤ 1125899906842624) (hn : n < s.size) (h39 : s[n].toNat = 39) (hn1 : n + 1 < s.size) (h1 : s[n + 1].toNat = 39) (w : World) :
    Calls Tryz.prog 68 #[.string s, .int .i64 (n : Int)] w (RdOut 0 [] (n + 1) 50 w) := by
  have x3 : decide ((n : Int) < 0) = false := decide_eq_false (by omega)
  have x4 : decide ((s.size : Int) ≤ (n : Int)) = false := decide_eq_false (by omega)
  have x5 : decide (s.size ≤ n) = false := decide_eq_false (by omega)
  have x1 : (((s[n].toNat : Nat) : Int) == 34) = false := by rw [beq_eq_false_iff_ne]; omega
  have x2 : (((s[n].toNat : Nat) : Int) != 34) = true := by rw [bne_iff_ne]; omega
  have x6 : (((s[n].toNat : Nat) : Int) != 39) = false := by rw [bne_eq_false_iff_eq]; omega
  have e1 : (((s[n + 1].toNat : Nat) : Int) == ((s[n].toNat : Nat) : Int)) = true := by rw [beq_iff_eq]; omega
  have e2 : (((s[n + 1].toNat : Nat) : Int) == 39) = true := by rw [beq_iff_eq]; omega
  clear h39 h1
  go_enter Tryz.func68, Tryz.ntmps68
  go_wp2_with fail
  go_region
  go_wp2_with fail
  refine wp_loop_rounds 1 ?_
  rw [rounds_succ]
  go_wp2_with fail
  (try simp only [Exit.inBlock, Exit.then]); refine bodyPost_ret (Go.Proofs.YtkehchajgdepaaaGreatDoor.Qt.results_tmp4 rfl _ _ _) rfl ?_
  exact ⟨.slice none 0 0, rfl, nilR _ _, below_drewN (Below.refl _ _) 1⟩
set_option maxRecDepth 20000 in
/-- The first sign is wrong. -/
theorem refread_cbad (s : ByteArray) (n : Nat) (hs : s.size ≤ 1125899906842624) (hn : n < s.size) (h39 : s[n].toNat = 39) (h1 : hd (rest s (n + 1)) ≠ 39) (y : Int) (hy : (y != 0) = true)
    (C1 : Hid (∀ W, Calls Tryz.prog 87 #[.string s, .int .i64 ((n : Int) + 1), .bool false] W fun e w' => e = .returned (.tuple #[.int .i64 0, .int .i64 ((n : Int) + 1), .int .i64 y]) ∧ Below W.heap.size W w')) (w : World) :
    Calls Tryz.prog 68 #[.string s, .int .i64 (n : Int)] w (RdOut 0 [] (n + 1) y w) := by
  have x3 : decide ((n : Int) < 0) = false := decide_eq_false (by omega)
  have x4 : decide ((s.size : Int) ≤ (n : Int)) = false := decide_eq_false (by omega)
  have x5 : decide (s.size ≤ n) = false := decide_eq_false (by omega)
  have x1 : (((s[n].toNat : Nat) : Int) == 34) = false := by rw [beq_eq_false_iff_ne]; omega
  have x2 : (((s[n].toNat : Nat) : Int) != 34) = true := by rw [bne_iff_ne]; omega
  have x6 : (((s[n].toNat : Nat) : Int) != 39) = false := by rw [bne_eq_false_iff_eq]; omega
  by_cases hn1 : n + 1 < s.size
  · rw [hd_rest s (n + 1) hn1] at h1
    have e1 : (((s[n + 1].toNat : Nat) : Int) == ((s[n].toNat : Nat) : Int)) = false := by rw [beq_eq_false_iff_ne]; omega
    have e2 : (((s[n + 1].toNat : Nat) : Int) == 39) = false := by rw [beq_eq_false_iff_ne]; omega
    clear h39 h1
    go_enter Tryz.func68, Tryz.ntmps68
    go_wp2_with fail
    go_region
    go_wp2_with fail
    refine wp_loop_rounds 1 ?_
    rw [rounds_succ]
    go_wp2_with fail
    refine (C1.out _).mono ?_
    rintro e w1 ⟨rfl, hb1⟩
    have HB1 : Hid (Below w.heap.size w w1) := (below_drewN (Below.refl _ _) 1).trans hb1
    clear hb1
    go_wp2_with fail
    (try simp only [Exit.inBlock, Exit.then]); refine bodyPost_ret (Go.Proofs.YtkehchajgdepaaaGreatDoor.Qt.results_tmp4 rfl _ _ _) rfl ?_
    exact ⟨.slice none 0 0, rfl, nilR _ _, HB1.out⟩
  · have e0 : decide ((n : Int) + 1 < (s.size : Int)) = false := decide_eq_false (by omega)
    clear h39 h1
    go_enter Tryz.func68, Tryz.ntmps68
    go_wp2_with fail
    go_region
    go_wp2_with fail
    refine wp_loop_rounds 1 ?_
    rw [rounds_succ]
    go_wp2_with fail
    refine (C1.out _).mono ?_
    rintro e w1 ⟨rfl, hb1⟩
    have HB1 : Hid (Below w.heap.size w w1) := (below_drewN (Below.refl _ _) 1).trans hb1
    clear hb1
    go_wp2_with fail
    (try simp only [Exit.inBlock, Exit.then]); refine bodyPost_ret (Go.Proofs.YtkehchajgdepaaaGreatDoor.Qt.results_tmp4 rfl _ _ _) rfl ?_
    exact ⟨.slice none 0 0, rfl, nilR _ _, HB1.out⟩
set_option maxRecDepth 20000 in
/-- One sign, and what follows: r: it is the quote. -/
theorem refread_cone (s : ByteArray) (n : Nat) (hs : s.size ≤ 1125899906842624) (hn : n < s.size) (h39 : s[n].toNat = 39) (h1 : hd (rest s (n + 1)) ≠ 39) (c E : Nat) (hE1 : n + 1 < E) (hE2 : E ≤ s.size)
    (C1 : Hid (∀ W, Calls Tryz.prog 87 #[.string s, .int .i64 ((n : Int) + 1), .bool false] W fun e w' => e = .returned (.tuple #[.int .i64 (c : Int), .int .i64 (E : Int), .int .i64 0]) ∧ Below W.heap.size W w')) (w : World) :
    Calls Tryz.prog 68 #[.string s, .int .i64 (n : Int)] w (if hd (rest s E) = 39 then RdOut 13 [c] (E + 1) 0 w else RdOut 0 [] E 50 w) := by
  obtain ⟨i0, hi, hz0, hz1, hz2⟩ := info_parts infoInt
  have x3 : decide ((n : Int) < 0) = false := decide_eq_false (by omega)
  have x4 : decide ((s.size : Int) ≤ (n : Int)) = false := decide_eq_false (by omega)
  have x5 : decide (s.size ≤ n) = false := decide_eq_false (by omega)
  have x1 : (((s[n].toNat : Nat) : Int) == 34) = false := by rw [beq_eq_false_iff_ne]; omega
  have x2 : (((s[n].toNat : Nat) : Int) != 34) = true := by rw [bne_iff_ne]; omega
  have x6 : (((s[n].toNat : Nat) : Int) != 39) = false := by rw [bne_eq_false_iff_eq]; omega
  have hn1 : n + 1 < s.size := by omega
  rw [hd_rest s (n + 1) hn1] at h1
  have e1 : (((s[n + 1].toNat : Nat) : Int) == ((s[n].toNat : Nat) : Int)) = false := by rw [beq_eq_false_iff_ne]; omega
  have e2 : (((s[n + 1].toNat : Nat) : Int) == 39) = false := by rw [beq_eq_false_iff_ne]; omega
  have y0 : decide ((0 : Int) ≤ ((c : Nat) : Int)) = true := decide_eq_true (by omega)
  have H39 := Lib.hid h39
  clear h39 h1
  by_cases hE : E < s.size
  · by_cases q : s[E].toNat = 39
    · have hq : hd (rest s E) = 39 := by rw [hd_rest s E hE]; exact q
      rw [if_pos hq]
      have g1 : (((s[E].toNat : Nat) : Int) == ((s[n].toNat : Nat) : Int)) = true := by rw [beq_iff_eq, H39.out, q]
      clear hq q
      go_enter Tryz.func68, Tryz.ntmps68
      go_wp2_with fail
      go_region
      go_wp2_with fail
      refine wp_loop_rounds 2 ?_
      rw [rounds_succ]
      go_wp2_with fail
      refine (C1.out _).mono ?_
      rintro e w1 ⟨rfl, hb1⟩
      have HB1 : Hid (Below w.heap.size w w1) := (below_drewN (Below.refl _ _) 1).trans hb1
      have hz1 := HB1.out.size
      clear hb1
      go_wp2_with (first | (at_builtin; refine append_int _ rfl _ _ rfl w.heap.size (.slice none 0 0) [] rfl (nilR _ _) ⟨w1.heap.size, 0, none⟩ c 1 rfl ?c1 (by simp) ?c2 ?_))
      case c1 => simp [go_sem]
      case c2 => simp; omega
      intro v' w3 hown' hgrow hblk
      have HB3 : Hid (Below w.heap.size w w3) := (HB1.out.alloc HB1.out.size _).grown hgrow (by simp; omega) (fun j hj => by simp [Value.ownBlock] at hj)
      rcases hown'.shape with ⟨-, h0⟩ | ⟨gg, cap, rfl, -, -⟩
      · exact absurd h0 (by simp)
      have OWN' : Hid (Ints w3 w.heap.size (.slice (some ⟨gg, 0, none⟩) 1 cap) [c]) := hown'
      clear hown' hgrow hblk
      dsimp only [List.nil_append, List.length_cons, List.length_nil]
      go_wp2_with fail
      rw [rounds_succ]
      go_wp2_with fail
      (try simp only [Exit.inBlock, Exit.then]); refine bodyPost_ret (Go.Proofs.YtkehchajgdepaaaGreatDoor.Qt.results_tmp4 rfl _ _ _) rfl ?_
      exact ⟨_, rfl, OWN'.out, HB3.out⟩
    · have hq : ¬ hd (rest s E) = 39 := by rw [hd_rest s E hE]; exact q
      rw [if_neg hq]
      have g1 : (((s[E].toNat : Nat) : Int) == ((s[n].toNat : Nat) : Int)) = false := by rw [beq_eq_false_iff_ne, H39.out]; omega
      clear hq q
      go_enter Tryz.func68, Tryz.ntmps68
      go_wp2_with fail
      go_region
      go_wp2_with fail
      refine wp_loop_rounds 2 ?_
      rw [rounds_succ]
      go_wp2_with fail
      refine (C1.out _).mono ?_
      rintro e w1 ⟨rfl, hb1⟩
      have HB1 : Hid (Below w.heap.size w w1) := (below_drewN (Below.refl _ _) 1).trans hb1
      have hz1 := HB1.out.size
      clear hb1
      go_wp2_with (first | (at_builtin; refine append_int _ rfl _ _ rfl w.heap.size (.slice none 0 0) [] rfl (nilR _ _) ⟨w1.heap.size, 0, none⟩ c 1 rfl ?c1 (by simp) ?c2 ?_))
      case c1 => simp [go_sem]
      case c2 => simp; omega
      intro v' w3 hown' hgrow hblk
      have HB3 : Hid (Below w.heap.size w w3) := (HB1.out.alloc HB1.out.size _).grown hgrow (by simp; omega) (fun j hj => by simp [Value.ownBlock] at hj)
      rcases hown'.shape with ⟨-, h0⟩ | ⟨gg, cap, rfl, -, -⟩
      · exact absurd h0 (by simp)
      clear hown' hgrow hblk
      dsimp only [List.nil_append, List.length_cons, List.length_nil]
      go_wp2_with fail
      rw [rounds_succ]
      go_wp2_with fail
      (try simp only [Exit.inBlock, Exit.then]); refine bodyPost_ret (Go.Proofs.YtkehchajgdepaaaGreatDoor.Qt.results_tmp4 rfl _ _ _) rfl ?_
      exact ⟨.slice none 0 0, rfl, nilR _ _, HB3.out⟩
  · have hq : ¬ hd (rest s E) = 39 := by rw [hd_rest_out s E (by omega)]; decide
    rw [if_neg hq]
    have g0 : decide ((E : Int) < (s.size : Int)) = false := decide_eq_false (by omega)
    clear hq
    go_enter Tryz.func68, Tryz.ntmps68
    go_wp2_with fail
    go_region
    go_wp2_with fail
    refine wp_loop_rounds 2 ?_
    rw [rounds_succ]
    go_wp2_with fail
    refine (C1.out _).mono ?_
    rintro e w1 ⟨rfl, hb1⟩
    have HB1 : Hid (Below w.heap.size w w1) := (below_drewN (Below.refl _ _) 1).trans hb1
    have hz1 := HB1.out.size
    clear hb1
    go_wp2_with (first | (at_builtin; refine append_int _ rfl _ _ rfl w.heap.size (.slice none 0 0) [] rfl (nilR _ _) ⟨w1.heap.size, 0, none⟩ c 1 rfl ?c1 (by simp) ?c2 ?_))
    case c1 => simp [go_sem]
    case c2 => simp; omega
    intro v' w3 hown' hgrow hblk
    have HB3 : Hid (Below w.heap.size w w3) := (HB1.out.alloc HB1.out.size _).grown hgrow (by simp; omega) (fun j hj => by simp [Value.ownBlock] at hj)
    rcases hown'.shape with ⟨-, h0⟩ | ⟨gg, cap, rfl, -, -⟩
    · exact absurd h0 (by simp)
    clear hown' hgrow hblk
    dsimp only [List.nil_append, List.length_cons, List.length_nil]
    go_wp2_with fail
    rw [rounds_succ]
    go_wp2_with fail
    (try simp only [Exit.inBlock, Exit.then]); refine bodyPost_ret (Go.Proofs.YtkehchajgdepaaaGreatDoor.Qt.results_tmp4 rfl _ _ _) rfl ?_
    exact ⟨.slice none 0 0, rfl, nilR _ _, HB3.out⟩
end Go.Proofs.YtkehchajgdepaaaGreatDoor.Qt
/-
  The contracts of the document's own Scan and Runes; the walks of QuoteScans and QuoteRunes. Conditions: the string has at most 2^20 bytes; the library's table of powers of ten and the program's list of names stand.
-/
namespace Go.Proofs.YtkehchajgdepaaaGreatDoor.Qt
open Go.RowKit Gly
open Wrd (rn wd)
set_option linter.unusedSimpArgs false
set_option linter.unusedVariables false

set_option maxRecDepth 20000 in
theorem refread_none (s : ByteArray) (i : Int) (hs : s.size ≤ 1125899906842624) (hq : (hdI s i == 34 || hdI s i == 39) = false) (w : World) :
    Calls Tryz.prog 68 #[.string s, .int .i64 i] w (RdOut 0 [] 0 0 w) := by
  by_cases h0 : i < 0
  · have x3 : decide (i < 0) = true := decide_eq_true h0
    clear hq h0
    go_enter Tryz.func68, Tryz.ntmps68
    go_wp2_with fail
    (try simp only [Exit.inBlock, Exit.then]); refine bodyPost_ret (Go.Proofs.YtkehchajgdepaaaGreatDoor.Qt.results_tmp4 rfl _ _ _) rfl ?_
    exact ⟨.slice none 0 0, rfl, nilR _ _, Below.refl _ _⟩
  · obtain ⟨n, rfl⟩ := Int.eq_ofNat_of_zero_le (by omega : 0 ≤ i)
    have x3 : decide ((n : Int) < 0) = false := decide_eq_false (by omega)
    by_cases hn : n < s.size
    · have x4 : decide ((s.size : Int) ≤ (n : Int)) = false := decide_eq_false (by omega)
      have x5 : decide (s.size ≤ n) = false := decide_eq_false (by omega)
      rw [hdI_nat, hd_rest s n hn, Bool.or_eq_false_iff, beq_eq_false_iff_ne, beq_eq_false_iff_ne] at hq
      have x1 : (((s[n].toNat : Nat) : Int) != 34) = true := by rw [bne_iff_ne]; omega
      have x2 : (((s[n].toNat : Nat) : Int) != 39) = true := by rw [bne_iff_ne]; omega
      clear hq h0
      go_enter Tryz.func68, Tryz.ntmps68
      go_wp2_with fail
      (try simp only [Exit.inBlock, Exit.then]); refine bodyPost_ret (Go.Proofs.YtkehchajgdepaaaGreatDoor.Qt.results_tmp4 rfl _ _ _) rfl ?_
      exact ⟨.slice none 0 0, rfl, nilR _ _, Below.refl _ _⟩
    · have x4 : decide ((s.size : Int) ≤ (n : Int)) = true := decide_eq_true (by omega)
      have x5 : decide (s.size ≤ n) = true := decide_eq_true (by omega)
      clear hq h0 hn
      go_enter Tryz.func68, Tryz.ntmps68
      go_wp2_with fail
      (try simp only [Exit.inBlock, Exit.then]); refine bodyPost_ret (Go.Proofs.YtkehchajgdepaaaGreatDoor.Qt.results_tmp4 rfl _ _ _) rfl ?_
      exact ⟨.slice none 0 0, rfl, nilR _ _, Below.refl _ _⟩
theorem refread_any (s : ByteArray) (n : Nat) (hs : s.size ≤ 1125899906842624) (hn : n < s.size) (hq : quoted (rest s n) = true) (hl : (chs (readL (rest s n)).ps).length ≤ 17592186044416) (w : World) :
    Calls Tryz.prog 68 #[.string s, .int .i64 (n : Int)] w (RdOut (kindQ (rest s n)) (if (readL (rest s n)).err = 0 then chs (readL (rest s n)).ps else []) (n + 1 + (readL (rest s n)).pos) (readL (rest s n)).err w) := by
  have hd1 : (rest s n).drop 1 = rest s (n + 1) := rest_drop s n 1
  have hh := hd_rest s n hn
  rcases quoted_is _ hq with q | q
  · have hR : readL (rest s n) = txtL (s.size - n) (rest s (n + 1)) := by
      unfold readL
      rw [if_neg (by omega), hd1, rest_len]
    have hK : kindQ (rest s n) = if (readL (rest s n)).err = 0 then 14 else 0 := by
      unfold kindQ
      rw [if_neg (show ¬ hd (rest s n) = 39 by omega)]
    rw [hK]
    rw [hR] at hl ⊢
    exact refread_text s n (s.size - n) hs hn (by omega) (by omega) _ _ _ rfl rfl rfl hl w
  · have hR : readL (rest s n) = chrL (rest s (n + 1)) := by
      unfold readL
      rw [if_pos q, hd1]
    have hK : kindQ (rest s n) = if (readL (rest s n)).err = 0 then 13 else 0 := by
      unfold kindQ
      rw [if_pos q]
    rw [hK, hR]
    have h39 : s[n].toNat = 39 := by omega
    by_cases h1 : hd (rest s (n + 1)) = 39
    · have hC : chrL (rest s (n + 1)) = ⟨[], 0, 50⟩ := by unfold chrL; rw [if_pos h1]
      rw [hC]
      have hn1 : n + 1 < s.size := by
        rcases Nat.lt_or_ge (n + 1) s.size with h | h
        · exact h
        · rw [hd_rest_out s _ h] at h1
          exact absurd h1 (by decide)
      have h1' := h1
      rw [hd_rest s (n + 1) hn1] at h1'
      exact refread_c39 s n hs hn h39 hn1 h1' w
    · have c1 := fun W => one_any s (n + 1) false hs (by omega) W
      rw [show ((n + 1 : Nat) : Int) = (n : Int) + 1 by omega] at c1
      unfold oneA at c1
      have hC : chrL (rest s (n + 1)) = match pieceL (rest s (n + 1)) with
        | .error e => ⟨[], 0, e⟩
        | .ok p => if p.form ≠ 0 then ⟨[], 0, 51⟩ else if hd ((rest s (n + 1)).drop p.bytes.length) = 39 then ⟨[p], p.bytes.length + 1, 0⟩ else ⟨[], p.bytes.length, 50⟩ := by
        show (if hd (rest s (n + 1)) = 39 then _ else _) = _
        rw [if_neg h1]
        rfl
      cases hpc : pieceL (rest s (n + 1)) with
      | error y =>
        rw [hpc] at c1 hC
        dsimp only at c1 hC
        have hy := piece_err _ _ hpc
        rw [hC]
        dsimp only
        rw [if_neg (by omega), if_neg (by omega)]
        exact refread_cbad s n hs hn h39 h1 y (by rw [bne_iff_ne]; omega) (fun W => c1 W) w
      | ok p =>
        rw [hpc] at c1 hC
        dsimp only at c1 hC
        by_cases h0 : p.form ≠ 0
        · rw [if_pos ⟨rfl, h0⟩] at c1
          rw [if_pos h0] at hC
          rw [hC]
          dsimp only
          rw [if_neg (by decide), if_neg (by decide)]
          exact refread_cbad s n hs hn h39 h1 51 (by decide) (fun W => c1 W) w
        · have h0' : p.form = 0 := by omega
          rw [if_neg (fun h => h0 h.2), if_pos h0'] at c1
          rw [if_neg h0, rest_drop] at hC
          obtain ⟨l1, l2, l3⟩ := piece_len _ _ hpc
          rw [rest_len] at l2
          have c := refread_cone s n hs hn h39 h1 p.num (n + 1 + p.bytes.length) (by omega) (by omega) (fun W => c1 W) w
          by_cases h3 : hd (rest s (n + 1 + p.bytes.length)) = 39
          · rw [if_pos h3] at c hC
            have e : chs [p] = [p.num] := by rw [chs_cons, if_pos h0']; rfl
            rw [hC]
            dsimp only
            rw [if_pos rfl, if_pos rfl, e]
            exact c
          · rw [if_neg h3] at c hC
            rw [hC]
            exact c
theorem refscan_any (s : ByteArray) (i : Int) (hs : s.size ≤ 17592186044415) (w : World) :
    Calls Tryz.prog 43 #[.string s, .int .i64 i] w fun e w' => e = .returned (.tuple #[.int .i64 (scanI s i).1, .int .i64 (scanI s i).2.1, .int .i64 (scanI s i).2.2]) ∧ Below w.heap.size w w' := by
  have go : ∀ (k E x : Int) (Y : List Nat), (Hid (∀ W, Calls Tryz.prog 68 #[.string s, .int .i64 i] W fun e w' => ∃ v, e = .returned (.tuple #[.int .i64 k, v, .int .i64 E, .int .i64 x]) ∧ Ints w' W.heap.size v Y ∧ Below W.heap.size W w')) →
      Calls Tryz.prog 43 #[.string s, .int .i64 i] w fun e w' => e = .returned (.tuple #[.int .i64 k, .int .i64 E, .int .i64 x]) ∧ Below w.heap.size w w' := by
    intro k E x Y C
    go_enter Tryz.func43, Tryz.ntmps43
    go_wp2_with fail
    refine (C.out _).mono ?_
    rintro e w1 ⟨v, rfl, h1, h2⟩
    have HB := Lib.hid h2
    clear h1 h2
    go_wp2_with fail
    go_ret3
    exact ⟨rfl, HB.out⟩
  cases hq : (hdI s i == 34 || hdI s i == 39) with
  | false =>
    have e : scanI s i = (0, 0, 0) := by
      unfold scanI
      split
      · rename_i h0
        unfold scanL quoted
        unfold hdI at hq
        rw [if_pos h0] at hq
        rw [hq]
        rfl
      · rfl
    rw [e]
    exact go 0 0 0 [] (fun W => refread_none s i (by omega) hq W)
  | true =>
    have h0 : 0 ≤ i := by
      rcases Int.lt_or_le i 0 with h | h
      · unfold hdI at hq
        rw [if_neg (by omega)] at hq
        exact absurd hq (by decide)
      · exact h
    obtain ⟨n, rfl⟩ := Int.eq_ofNat_of_zero_le h0
    rw [hdI_nat] at hq
    have hn : n < s.size := by
      rcases Nat.lt_or_ge n s.size with h | h
      · exact h
      · rw [hd_rest_out s n h] at hq
        exact absurd hq (by decide)
    have e : scanI s (n : Int) = (kindQ (rest s n), ((n + 1 + (readL (rest s n)).pos : Nat) : Int), (readL (rest s n)).err) := by
      unfold scanI scanL
      rw [if_pos h0, Int.toNat_natCast, if_pos (show quoted (rest s n) = true from hq)]
      rfl
    rw [e]
    have hcr := count_read (rest s n)
    rw [rest_len] at hcr
    exact go _ _ _ _ (fun W => refread_any s n (by omega) hn hq (by omega) W)
/-- The answer of the document's own Runes: the error, and the row. -/
def RunesRef (L : List UInt8) (w : World) (e : Ending) (w' : World) : Prop := ∃ v, e = .returned (.tuple #[v, .int .i64 (wholeL L)]) ∧ Ints w' w.heap.size v (runesL L) ∧ Below w.heap.size w w'
end Go.Proofs.YtkehchajgdepaaaGreatDoor.Qt
