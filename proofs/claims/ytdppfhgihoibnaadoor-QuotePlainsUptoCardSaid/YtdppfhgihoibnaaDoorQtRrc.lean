/-
  The contracts of the document's own Read (a character, none), Scan, Runes. Conditions: the string has at most 2^50 bytes; its characters are at most 2^44.
-/
import Derived.Test.YtdppfhgihoibnaaDoorQtRrd
import Derived.Test.YtdppfhgihoibnaaDoorQtScn
namespace Go.Proofs.YtdppfhgihoibnaaDoor.Qt
open Go.RowKit Gly
open Wrd (rn wd)
set_option linter.unusedSimpArgs false
set_option linter.unusedVariables false

theorem nilR (w : World) (B : Nat) : Ints w B (.slice none 0 0) [] := World.ownsRow_nil _ _ _ _
set_option maxRecDepth 20000 in
theorem refread_c39 (s : ByteArray) (n : Nat) (hs : s.size ≤ 1125899906842624) (hn : n < s.size) (h39 : s[n].toNat = 39) (hn1 : n + 1 < s.size) (h1 : s[n + 1].toNat = 39) (w : World) :
    Calls Tryd.prog 23 #[.string s, .int .i64 (n : Int)] w (RdOut 0 [] (n + 1) 50 w) := by
  have x3 : decide ((n : Int) < 0) = false := decide_eq_false (by omega)
  have x4 : decide ((s.size : Int) ≤ (n : Int)) = false := decide_eq_false (by omega)
  have x5 : decide (s.size ≤ n) = false := decide_eq_false (by omega)
  have x1 : (((s[n].toNat : Nat) : Int) == 34) = false := by rw [beq_eq_false_iff_ne]; omega
  have x2 : (((s[n].toNat : Nat) : Int) != 34) = true := by rw [bne_iff_ne]; omega
  have x6 : (((s[n].toNat : Nat) : Int) != 39) = false := by rw [bne_eq_false_iff_eq]; omega
  have e1 : (((s[n + 1].toNat : Nat) : Int) == ((s[n].toNat : Nat) : Int)) = true := by rw [beq_iff_eq]; omega
  have e2 : (((s[n + 1].toNat : Nat) : Int) == 39) = true := by rw [beq_iff_eq]; omega
  clear h39 h1
  go_enter Tryd.func23, Tryd.ntmps23
  go_wp2_with fail
  go_region
  go_wp2_with fail
  refine wp_loop_rounds 1 ?_
  rw [rounds_succ]
  go_wp2_with fail
  (try simp only [Exit.inBlock, Exit.then]); refine bodyPost_ret (Go.Proofs.YtdppfhgihoibnaaDoor.Qt.results_tmp4 rfl _ _ _) rfl ?_
  exact ⟨.slice none 0 0, rfl, nilR _ _, below_drewN (Below.refl _ _) 1⟩
set_option maxRecDepth 20000 in
/-- The first sign is wrong. -/
theorem refread_cbad (s : ByteArray) (n : Nat) (hs : s.size ≤ 1125899906842624) (hn : n < s.size) (h39 : s[n].toNat = 39) (h1 : hd (rest s (n + 1)) ≠ 39) (y : Int) (hy : (y != 0) = true)
    (C1 : Hid (∀ W, Calls Tryd.prog 40 #[.string s, .int .i64 ((n : Int) + 1), .bool false] W fun e w' => e = .returned (.tuple #[.int .i64 0, .int .i64 ((n : Int) + 1), .int .i64 y]) ∧ Below W.heap.size W w')) (w : World) :
    Calls Tryd.prog 23 #[.string s, .int .i64 (n : Int)] w (RdOut 0 [] (n + 1) y w) := by
  have x3 : decide ((n : Int) < 0) = false := decide_eq_false (by omega)
  have x4 : decide ((s.size : Int) ≤ (n : Int)) = false := decide_eq_false (by omega)
  have x5 : decide (s.size ≤ n) = false := decide_eq_false (by omega)
  have x1 : (((s[n].toNat : Nat) : Int) == 34) = false := by rw [beq_eq_false_iff_ne]; omega
  have x2 : (((s[n].toNat : Nat) : Int) != 34) = true := by rw [bne_iff_ne]; omega
  have x6 : (((s[n].toNat : Nat) : Int) != 39) = false := by rw [bne_eq_false_iff_eq]; omega
  by_cases hn1 : n + 1 < s.size
  · rw [hd_rest s (n + 1) hn1] at h1
    have e1 : (((s[n + 1].toNat : Nat) : Int) == ((s[n].toNat : Nat) : Int)) = false := by rw [beq_eq_false_iff_ne]; omega
    have e2 : (((s[n + 1].toNat : Nat) : Int) == 39) = false := by rw [beq_eq_false_iff_ne]; omega
    clear h39 h1
    go_enter Tryd.func23, Tryd.ntmps23
    go_wp2_with fail
    go_region
    go_wp2_with fail
    refine wp_loop_rounds 1 ?_
    rw [rounds_succ]
    go_wp2_with fail
    refine (C1.out _).mono ?_
    rintro e w1 ⟨rfl, hb1⟩
    have HB1 : Hid (Below w.heap.size w w1) := (below_drewN (Below.refl _ _) 1).trans hb1
    clear hb1
    go_wp2_with fail
    (try simp only [Exit.inBlock, Exit.then]); refine bodyPost_ret (Go.Proofs.YtdppfhgihoibnaaDoor.Qt.results_tmp4 rfl _ _ _) rfl ?_
    exact ⟨.slice none 0 0, rfl, nilR _ _, HB1.out⟩
  · have e0 : decide ((n : Int) + 1 < (s.size : Int)) = false := decide_eq_false (by omega)
    clear h39 h1
    go_enter Tryd.func23, Tryd.ntmps23
    go_wp2_with fail
    go_region
    go_wp2_with fail
    refine wp_loop_rounds 1 ?_
    rw [rounds_succ]
    go_wp2_with fail
    refine (C1.out _).mono ?_
    rintro e w1 ⟨rfl, hb1⟩
    have HB1 : Hid (Below w.heap.size w w1) := (below_drewN (Below.refl _ _) 1).trans hb1
    clear hb1
    go_wp2_with fail
    (try simp only [Exit.inBlock, Exit.then]); refine bodyPost_ret (Go.Proofs.YtdppfhgihoibnaaDoor.Qt.results_tmp4 rfl _ _ _) rfl ?_
    exact ⟨.slice none 0 0, rfl, nilR _ _, HB1.out⟩
set_option maxRecDepth 20000 in
/-- One sign, and what follows: r: it is the quote. -/
theorem refread_cone (s : ByteArray) (n : Nat) (hs : s.size ≤ 1125899906842624) (hn : n < s.size) (h39 : s[n].toNat = 39) (h1 : hd (rest s (n + 1)) ≠ 39) (c E : Nat) (hE1 : n + 1 < E) (hE2 : E ≤ s.size)
    (C1 : Hid (∀ W, Calls Tryd.prog 40 #[.string s, .int .i64 ((n : Int) + 1), .bool false] W fun e w' => e = .returned (.tuple #[.int .i64 (c : Int), .int .i64 (E : Int), .int .i64 0]) ∧ Below W.heap.size W w')) (w : World) :
    Calls Tryd.prog 23 #[.string s, .int .i64 (n : Int)] w (if hd (rest s E) = 39 then RdOut 13 [c] (E + 1) 0 w else RdOut 0 [] E 50 w) := by
  obtain ⟨i0, hi, hz0, hz1, hz2⟩ := info_parts infoInt
  have x3 : decide ((n : Int) < 0) = false := decide_eq_false (by omega)
  have x4 : decide ((s.size : Int) ≤ (n : Int)) = false := decide_eq_false (by omega)
  have x5 : decide (s.size ≤ n) = false := decide_eq_false (by omega)
  have x1 : (((s[n].toNat : Nat) : Int) == 34) = false := by rw [beq_eq_false_iff_ne]; omega
  have x2 : (((s[n].toNat : Nat) : Int) != 34) = true := by rw [bne_iff_ne]; omega
  have x6 : (((s[n].toNat : Nat) : Int) != 39) = false := by rw [bne_eq_false_iff_eq]; omega
  have hn1 : n + 1 < s.size := by omega
  rw [hd_rest s (n + 1) hn1] at h1
  have e1 : (((s[n + 1].toNat : Nat) : Int) == ((s[n].toNat : Nat) : Int)) = false := by rw [beq_eq_false_iff_ne]; omega
  have e2 : (((s[n + 1].toNat : Nat) : Int) == 39) = false := by rw [beq_eq_false_iff_ne]; omega
  have y0 : decide ((0 : Int) ≤ ((c : Nat) : Int)) = true := decide_eq_true (by omega)
  have H39 := Lib.hid h39
  clear h39 h1
  by_cases hE : E < s.size
  · by_cases q : s[E].toNat = 39
    · have hq : hd (rest s E) = 39 := by rw [hd_rest s E hE]; exact q
      rw [if_pos hq]
      have g1 : (((s[E].toNat : Nat) : Int) == ((s[n].toNat : Nat) : Int)) = true := by rw [beq_iff_eq, H39.out, q]
      clear hq q
      go_enter Tryd.func23, Tryd.ntmps23
      go_wp2_with fail
      go_region
      go_wp2_with fail
      refine wp_loop_rounds 2 ?_
      rw [rounds_succ]
      go_wp2_with fail
      refine (C1.out _).mono ?_
      rintro e w1 ⟨rfl, hb1⟩
      have HB1 : Hid (Below w.heap.size w w1) := (below_drewN (Below.refl _ _) 1).trans hb1
      have hz1 := HB1.out.size
      clear hb1
      go_wp2_with (first | (at_builtin; refine append_int _ rfl _ _ rfl w.heap.size (.slice none 0 0) [] rfl (nilR _ _) ⟨w1.heap.size, 0, none⟩ c 1 rfl ?c1 (by simp) ?c2 ?_))
      case c1 => simp [go_sem]
      case c2 => simp; omega
      intro v' w3 hown' hgrow hblk
      have HB3 : Hid (Below w.heap.size w w3) := (HB1.out.alloc HB1.out.size _).grown hgrow (by simp; omega) (fun j hj => by simp [Value.ownBlock] at hj)
      rcases hown'.shape with ⟨-, h0⟩ | ⟨gg, cap, rfl, -, -⟩
      · exact absurd h0 (by simp)
      have OWN' : Hid (Ints w3 w.heap.size (.slice (some ⟨gg, 0, none⟩) 1 cap) [c]) := hown'
      clear hown' hgrow hblk
      dsimp only [List.nil_append, List.length_cons, List.length_nil]
      go_wp2_with fail
      rw [rounds_succ]
      go_wp2_with fail
      (try simp only [Exit.inBlock, Exit.then]); refine bodyPost_ret (Go.Proofs.YtdppfhgihoibnaaDoor.Qt.results_tmp4 rfl _ _ _) rfl ?_
      exact ⟨_, rfl, OWN'.out, HB3.out⟩
    · have hq : ¬ hd (rest s E) = 39 := by rw [hd_rest s E hE]; exact q
      rw [if_neg hq]
      have g1 : (((s[E].toNat : Nat) : Int) == ((s[n].toNat : Nat) : Int)) = false := by rw [beq_eq_false_iff_ne, H39.out]; omega
      clear hq q
      go_enter Tryd.func23, Tryd.ntmps23
      go_wp2_with fail
      go_region
      go_wp2_with fail
      refine wp_loop_rounds 2 ?_
      rw [rounds_succ]
      go_wp2_with fail
      refine (C1.out _).mono ?_
      rintro e w1 ⟨rfl, hb1⟩
      have HB1 : Hid (Below w.heap.size w w1) := (below_drewN (Below.refl _ _) 1).trans hb1
      have hz1 := HB1.out.size
      clear hb1
      go_wp2_with (first | (at_builtin; refine append_int _ rfl _ _ rfl w.heap.size (.slice none 0 0) [] rfl (nilR _ _) ⟨w1.heap.size, 0, none⟩ c 1 rfl ?c1 (by simp) ?c2 ?_))
      case c1 => simp [go_sem]
      case c2 => simp; omega
      intro v' w3 hown' hgrow hblk
      have HB3 : Hid (Below w.heap.size w w3) := (HB1.out.alloc HB1.out.size _).grown hgrow (by simp; omega) (fun j hj => by simp [Value.ownBlock] at hj)
      rcases hown'.shape with ⟨-, h0⟩ | ⟨gg, cap, rfl, -, -⟩
      · exact absurd h0 (by simp)
      clear hown' hgrow hblk
      dsimp only [List.nil_append, List.length_cons, List.length_nil]
      go_wp2_with fail
      rw [rounds_succ]
      go_wp2_with fail
      (try simp only [Exit.inBlock, Exit.then]); refine bodyPost_ret (Go.Proofs.YtdppfhgihoibnaaDoor.Qt.results_tmp4 rfl _ _ _) rfl ?_
      exact ⟨.slice none 0 0, rfl, nilR _ _, HB3.out⟩
  · have hq : ¬ hd (rest s E) = 39 := by rw [hd_rest_out s E (by omega)]; decide
    rw [if_neg hq]
    have g0 : decide ((E : Int) < (s.size : Int)) = false := decide_eq_false (by omega)
    clear hq
    go_enter Tryd.func23, Tryd.ntmps23
    go_wp2_with fail
    go_region
    go_wp2_with fail
    refine wp_loop_rounds 2 ?_
    rw [rounds_succ]
    go_wp2_with fail
    refine (C1.out _).mono ?_
    rintro e w1 ⟨rfl, hb1⟩
    have HB1 : Hid (Below w.heap.size w w1) := (below_drewN (Below.refl _ _) 1).trans hb1
    have hz1 := HB1.out.size
    clear hb1
    go_wp2_with (first | (at_builtin; refine append_int _ rfl _ _ rfl w.heap.size (.slice none 0 0) [] rfl (nilR _ _) ⟨w1.heap.size, 0, none⟩ c 1 rfl ?c1 (by simp) ?c2 ?_))
    case c1 => simp [go_sem]
    case c2 => simp; omega
    intro v' w3 hown' hgrow hblk
    have HB3 : Hid (Below w.heap.size w w3) := (HB1.out.alloc HB1.out.size _).grown hgrow (by simp; omega) (fun j hj => by simp [Value.ownBlock] at hj)
    rcases hown'.shape with ⟨-, h0⟩ | ⟨gg, cap, rfl, -, -⟩
    · exact absurd h0 (by simp)
    clear hown' hgrow hblk
    dsimp only [List.nil_append, List.length_cons, List.length_nil]
    go_wp2_with fail
    rw [rounds_succ]
    go_wp2_with fail
    (try simp only [Exit.inBlock, Exit.then]); refine bodyPost_ret (Go.Proofs.YtdppfhgihoibnaaDoor.Qt.results_tmp4 rfl _ _ _) rfl ?_
    exact ⟨.slice none 0 0, rfl, nilR _ _, HB3.out⟩
end Go.Proofs.YtdppfhgihoibnaaDoor.Qt
