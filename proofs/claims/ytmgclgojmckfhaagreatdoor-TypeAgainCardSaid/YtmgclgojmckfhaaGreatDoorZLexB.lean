/-
  The contract of the method lexeme of the program's lexer. Conditions: the text has at most 2^24 bytes; the program's list of names stands.
-/
import Derived.Test.YtmgclgojmckfhaaGreatDoorZLexA
import Derived.Test.YtmgclgojmckfhaaGreatDoorZNotB
import Derived.LoopTactic
import Derived.OneCell
import Derived.Deep.Onto
namespace Go.Proofs.YtmgclgojmckfhaaGreatDoor.Lx
open Go.RowKit Gly
open Wrd (rn wd)
set_option linter.unusedSimpArgs false
set_option linter.unusedVariables false

theorem undrew {w w' : World} {B n : Nat} (h : Below B (w.drewN n) w') : Below B w w' := ⟨h.os, h.tape, h.output, h.size, h.block⟩
set_option maxHeartbeats 2000000 in
theorem lexeme_any (s : ByteArray) (j : Nat) (hs : s.size ≤ 16777216) (hj : j < s.size) (b : Nat) (L C : Int) (vt vn : Value) (g l : Int) (w : World) (h : Lb w b s j L C vt vn g l) (hN : Qt.Nam w) :
    Calls Tryz.prog 47 #[.pointer (some ⟨b, 0, none⟩)] w fun e w' => e = .returned (.tuple #[.int .i64 (lexI s j).1, .int .i64 (((lexI s j).2.1 : Nat) : Int), .int .i64 (lexI s j).2.2]) ∧ Below w.heap.size w w' := by
  have c1 := fun W => Num.Scan_any s (j : Int) (by omega) W
  have c2 := fun W hN => Qt.Scan_any s (j : Int) (by omega) W hN
  have c3 := fun W => Wrd.Scan_any s (j : Int) (by omega) W
  have hw := lex_ways s j hj
  generalize Num.scanN s (j : Int) = n at *
  generalize Qt.scanI s (j : Int) = q at *
  generalize Wrd.scanI s (j : Int) = d at *
  generalize lexI s j = x at *
  obtain ⟨n1, n2⟩ := n
  obtain ⟨q1, q2, q3⟩ := q
  obtain ⟨d1, d2, d3⟩ := d
  obtain ⟨x1, x2, x3⟩ := x
  dsimp only at *
  have C1 := Lib.hid c1
  have C2 := Lib.hid c2
  have C3 := Lib.hid c3
  have H := Lib.hid h
  have HN := Lib.hid hN
  have a0 := h.c0
  have a1 := h.c1
  clear c1 c2 c3 h hN
  rcases hw with ⟨h1, e⟩ | ⟨h1, h2, e⟩ | ⟨h1, h2, h3, h4, e, e2⟩ | ⟨h1, h2, h3, h4, e⟩
  · simp only [Prod.mk.injEq] at e
    obtain ⟨rfl, rfl, rfl⟩ := e
    have b1 : (((n1 : Nat) : Int) != 0) = true := by rw [bne_iff_ne]; omega
    clear h1
    go_enter Tryz.func47, Tryz.ntmps47
    go_wp2_with fail
    go_region_held3 (fun w' => w'.cell? ⟨b, 0, none⟩ = some (.string s) ∧ w'.cell? ⟨b, 1, none⟩ = some (.int .i64 (j : Int))) (go_keep) (first
      | (go_at_call 60; refine (C1.out _).mono ?_; rintro e w1 ⟨rfl, hb1⟩; have HB1 := Lib.hid (undrew (n := 1) hb1); have H1 := Lib.hid (H.out.below HB1.out H.out.lt); have N1 := Lib.hid (HN.out.below HB1.out (Nat.le_refl _)); have e0 := H1.out.c0; have e1 := H1.out.c1; clear hb1))
    all_goals go_wp2_with fail
    all_goals go_ret3
    all_goals exact ⟨rfl, HB1.out⟩
  · simp only [Prod.mk.injEq] at e
    obtain ⟨rfl, rfl, rfl⟩ := e
    subst h1
    have b1 : (((0 : Nat) : Int) != 0) = false := rfl
    by_cases z : q1 = 0
    · subst z
      have b2 : (q3 != 0) = true := by rw [bne_iff_ne]; rcases h2 with h | h; exact absurd rfl h; exact h
      clear h2
      go_enter Tryz.func47, Tryz.ntmps47
      go_wp2_with fail
      go_region_held3 (fun w' => w'.cell? ⟨b, 0, none⟩ = some (.string s) ∧ w'.cell? ⟨b, 1, none⟩ = some (.int .i64 (j : Int))) (go_keep) (first
        | (go_at_call 60; refine (C1.out _).mono ?_; rintro e w1 ⟨rfl, hb1⟩; have HB1 := Lib.hid (undrew (n := 1) hb1); have H1 := Lib.hid (H.out.below HB1.out H.out.lt); have N1 := Lib.hid (HN.out.below HB1.out (Nat.le_refl _)); have e0 := H1.out.c0; have e1 := H1.out.c1; clear hb1))
      all_goals go_wp2_with fail
      go_region_held3 (fun w' => w'.cell? ⟨b, 0, none⟩ = some (.string s) ∧ w'.cell? ⟨b, 1, none⟩ = some (.int .i64 (j : Int))) (go_keep) (first
        | (go_at_call 61; refine (C2.out (World.drew w1) N1.out).mono ?_; rintro e w2 ⟨rfl, hb2⟩; have HB2 := Lib.hid (undrew (n := 1) hb2); have H2 := Lib.hid (H1.out.below HB2.out H1.out.lt); have u0 := H2.out.c0; have u1 := H2.out.c1; clear hb2))
      all_goals go_wp2_with fail
      all_goals go_ret3
      all_goals exact ⟨rfl, HB1.out.trans (HB2.out.mono HB1.out.size)⟩
    · have b2 : (q1 != 0) = true := by rw [bne_iff_ne]; exact z
      clear h2 z
      go_enter Tryz.func47, Tryz.ntmps47
      go_wp2_with fail
      go_region_held3 (fun w' => w'.cell? ⟨b, 0, none⟩ = some (.string s) ∧ w'.cell? ⟨b, 1, none⟩ = some (.int .i64 (j : Int))) (go_keep) (first
        | (go_at_call 60; refine (C1.out _).mono ?_; rintro e w1 ⟨rfl, hb1⟩; have HB1 := Lib.hid (undrew (n := 1) hb1); have H1 := Lib.hid (H.out.below HB1.out H.out.lt); have N1 := Lib.hid (HN.out.below HB1.out (Nat.le_refl _)); have e0 := H1.out.c0; have e1 := H1.out.c1; clear hb1))
      all_goals go_wp2_with fail
      go_region_held3 (fun w' => w'.cell? ⟨b, 0, none⟩ = some (.string s) ∧ w'.cell? ⟨b, 1, none⟩ = some (.int .i64 (j : Int))) (go_keep) (first
        | (go_at_call 61; refine (C2.out (World.drew w1) N1.out).mono ?_; rintro e w2 ⟨rfl, hb2⟩; have HB2 := Lib.hid (undrew (n := 1) hb2); have H2 := Lib.hid (H1.out.below HB2.out H1.out.lt); have u0 := H2.out.c0; have u1 := H2.out.c1; clear hb2))
      all_goals go_wp2_with fail
      all_goals go_ret3
      all_goals exact ⟨rfl, HB1.out.trans (HB2.out.mono HB1.out.size)⟩
  · simp only [Prod.mk.injEq] at e
    obtain ⟨rfl, rfl⟩ := e
    subst h1 h2 h3 e2
    have b1 : (((0 : Nat) : Int) != 0) = false := rfl
    have b2 : (d1 != 0) = true := by rw [bne_iff_ne]; exact h4
    clear h4
    go_enter Tryz.func47, Tryz.ntmps47
    go_wp2_with fail
    go_region_held3 (fun w' => w'.cell? ⟨b, 0, none⟩ = some (.string s) ∧ w'.cell? ⟨b, 1, none⟩ = some (.int .i64 (j : Int))) (go_keep) (first
      | (go_at_call 60; refine (C1.out _).mono ?_; rintro e w1 ⟨rfl, hb1⟩; have HB1 := Lib.hid (undrew (n := 1) hb1); have H1 := Lib.hid (H.out.below HB1.out H.out.lt); have N1 := Lib.hid (HN.out.below HB1.out (Nat.le_refl _)); have e0 := H1.out.c0; have e1 := H1.out.c1; clear hb1))
    all_goals go_wp2_with fail
    go_region_held3 (fun w' => w'.cell? ⟨b, 0, none⟩ = some (.string s) ∧ w'.cell? ⟨b, 1, none⟩ = some (.int .i64 (j : Int))) (go_keep) (first
      | (go_at_call 61; refine (C2.out (World.drew w1) N1.out).mono ?_; rintro e w2 ⟨rfl, hb2⟩; have HB2 := Lib.hid (undrew (n := 1) hb2); have H2 := Lib.hid (H1.out.below HB2.out H1.out.lt); have u0 := H2.out.c0; have u1 := H2.out.c1; clear hb2))
    all_goals go_wp2_with fail
    go_region_held3 (fun w' => w'.cell? ⟨b, 0, none⟩ = some (.string s) ∧ w'.cell? ⟨b, 1, none⟩ = some (.int .i64 (j : Int))) (go_keep) (first
      | (go_at_call 62; refine (C3.out _).mono ?_; rintro e w3 ⟨rfl, hb3⟩; have HB3 := Lib.hid (undrew (n := 1) hb3); have H3 := Lib.hid (H2.out.below HB3.out H2.out.lt); have v0 := H3.out.c0; have v1 := H3.out.c1; clear hb3))
    all_goals go_wp2_with fail
    all_goals go_ret3
    all_goals exact ⟨rfl, (HB1.out.trans (HB2.out.mono HB1.out.size)).trans (HB3.out.mono (Nat.le_trans HB1.out.size HB2.out.size))⟩
  · simp only [Prod.mk.injEq] at e
    obtain ⟨rfl, e2, rfl⟩ := e
    subst x2
    subst h1 h2 h3 h4
    have b1 : (((0 : Nat) : Int) != 0) = false := rfl
    go_enter Tryz.func47, Tryz.ntmps47
    go_wp2_with fail
    go_region_held3 (fun w' => w'.cell? ⟨b, 0, none⟩ = some (.string s) ∧ w'.cell? ⟨b, 1, none⟩ = some (.int .i64 (j : Int))) (go_keep) (first
      | (go_at_call 60; refine (C1.out _).mono ?_; rintro e w1 ⟨rfl, hb1⟩; have HB1 := Lib.hid (undrew (n := 1) hb1); have H1 := Lib.hid (H.out.below HB1.out H.out.lt); have N1 := Lib.hid (HN.out.below HB1.out (Nat.le_refl _)); have e0 := H1.out.c0; have e1 := H1.out.c1; clear hb1))
    all_goals go_wp2_with fail
    go_region_held3 (fun w' => w'.cell? ⟨b, 0, none⟩ = some (.string s) ∧ w'.cell? ⟨b, 1, none⟩ = some (.int .i64 (j : Int))) (go_keep) (first
      | (go_at_call 61; refine (C2.out (World.drew w1) N1.out).mono ?_; rintro e w2 ⟨rfl, hb2⟩; have HB2 := Lib.hid (undrew (n := 1) hb2); have H2 := Lib.hid (H1.out.below HB2.out H1.out.lt); have u0 := H2.out.c0; have u1 := H2.out.c1; clear hb2))
    all_goals go_wp2_with fail
    go_region_held3 (fun w' => w'.cell? ⟨b, 0, none⟩ = some (.string s) ∧ w'.cell? ⟨b, 1, none⟩ = some (.int .i64 (j : Int))) (go_keep) (first
      | (go_at_call 62; refine (C3.out _).mono ?_; rintro e w3 ⟨rfl, hb3⟩; have HB3 := Lib.hid (undrew (n := 1) hb3); have H3 := Lib.hid (H2.out.below HB3.out H2.out.lt); have v0 := H3.out.c0; have v1 := H3.out.c1; clear hb3))
    all_goals go_wp2_with fail
    all_goals go_quiet (fail)
    all_goals go_wp2_with fail
    all_goals go_ret3
    all_goals exact ⟨rfl, Plc.below_drewN ((HB1.out.trans (HB2.out.mono HB1.out.size)).trans (HB3.out.mono (Nat.le_trans HB1.out.size HB2.out.size))) _⟩
end Go.Proofs.YtmgclgojmckfhaaGreatDoor.Lx
/-
  The contract of the method next of the program's lexer: one item more, or what is wrong. Conditions: the text is one of runes, of at most 2^24 bytes; the program's list of names stands.
-/
namespace Go.Proofs.YtmgclgojmckfhaaGreatDoor.Lx
open Go.RowKit Gly
open Wrd (rn wd)
set_option linter.unusedSimpArgs false
set_option linter.unusedVariables false

theorem skp_skp (s : ByteArray) (i : Nat) : skp s (skp s i) = skp s i := by
  have h := run_behind Qt.blkP _ (rest s i) (Nat.le_refl _)
  rw [rest_drop] at h
  show skp s i + Wrd.run Qt.blkP (rest s (skp s i)) = skp s i
  have e : rest s (i + Wrd.run Qt.blkP (rest s i)) = rest s (skp s i) := rfl
  rw [e] at h
  rw [Wrd.run_stop Qt.blkP _ h]
  rfl
theorem bd_to {s : ByteArray} {i j : Nat} (h : Pc s i j) : Bd (rest s 0) j := by
  have := h.from_.add (n := i) (m := j - i) (by rw [rest_drop, Nat.zero_add]; exact h.to)
  rw [show i + (j - i) = j by have := h.le; omega] at this
  exact this
theorem toks_le (s : ByteArray) {i : Nat} {acc : List It} (h : At s i acc) : (toksL acc).length ≤ i := by
  have h1 := h.count
  have h2 : (toksL acc).length ≤ acc.length := List.length_filter_le _ _
  omega
/-- What next answers. -/
def NxtOut (s : ByteArray) (w0 : World) (p : Nat) (acc : List It) (e : Ending) (w' : World) : Prop :=
  (∃ x q, nxt s (skp s p) = .bad x q ∧ x ≠ 0 ∧ e = .returned (.tuple #[.int .i64 ((q : Nat) : Int), .int .i64 x]) ∧ Below w0.heap.size w0 w') ∨
  (∃ t q, nxt s (skp s p) = .item t ∧ e = .returned (.tuple #[.int .i64 0, .int .i64 0]) ∧ q ≤ s.size ∧ Bd (rest s 0) q ∧ skp s q = skp s t.to ∧
    ∃ vt vn, Lr s w0 w' q (lineS s q) (colS s q) vt vn (toksL (acc ++ [t])) (notesP s (acc ++ [t]) t.to) (((accS s (acc ++ [t])).gap : Nat) : Int) (lastS s (acc ++ [t])))
set_option maxHeartbeats 4000000 in
theorem next_any (s : ByteArray) (p : Nat) (acc : List It) (hs : Ok (rest s 0)) (hsz : s.size ≤ 16777216) (hat : At s p acc) (hJ : skp s p < s.size) (vt vn : Value) (w0 w : World) (hN : Qt.Nam w0)
    (h : Lr s w0 w (skp s p) (lineS s (skp s p)) (colS s (skp s p)) vt vn (toksL acc) (notesP s acc p) (((accS s acc).gap : Nat) : Int) (lastS s acc)) :
    Calls Tryz.prog 22 #[.pointer (some ⟨w0.heap.size, 0, none⟩)] w (NxtOut s w0 p acc) := by
  have hp0 := hat.le
  have hbJ := bd_skip (at_bd hs hat)
  have c1 := fun W => Not.Scan_any s (skp s p : Int) (by omega) W
  have htl := toks_le s hat
  have hnl := notesP_len s hat
  have hgl := gap_le s hat
  have HAT := Lib.hid hat
  have H := Lib.hid h
  have HN := Lib.hid hN
  have a0 := h.blk.c0
  have a1 := h.blk.c1
  have HJ := Lib.hid hJ
  rcases nxt_cases s (skp s p) with ⟨h0, hn⟩ | ⟨h0, h1, h2, h3, hn⟩ | ⟨h0, h1, h2, hn⟩ | ⟨h0, h1, h2, hn⟩ | ⟨h0, h1, h2, hn⟩
  · omega
  · have e1 := Not.scanI_in s (skp s p) hJ 0 60 (Prod.ext h3 h2)
    rw [e1] at c1
    have C1 := Lib.hid c1
    have HNX := Lib.hid hn
    clear c1 h0 h1 h2 h3 hn e1 h hN hat hs hsz hbJ htl hnl hgl hJ hp0
    generalize hJJ : skp s p = J at *
    have HJJ := Lib.hid hJJ
    clear hJJ
    go_enter Tryz.func22, Tryz.ntmps22
    go_wp2_with fail
    go_region_held3 (fun w' => w'.cell? ⟨w0.heap.size, 0, none⟩ = some (.string s) ∧ w'.cell? ⟨w0.heap.size, 1, none⟩ = some (.int .i64 (J : Int))) (go_keep) (first
      | (go_at_call 45; refine (C1.out _).mono ?_; rintro e w1 ⟨rfl, hb1⟩; have H1 := Lib.hid (H.out.below (undrew (n := 1) hb1) (Nat.le_refl _)); have e0 := H1.out.blk.c0; have e1 := H1.out.blk.c1; clear hb1))
    go_wp2_with fail
    go_ret2
    exact .inl ⟨60, J, by rw [HJJ.out]; exact HNX.out, by decide, rfl, H1.out.bel⟩
  · have e1 : Not.scanI s ((skp s p : Nat) : Int) = (if (Not.scanN (rest s (skp s p))).1 = 0 then 0 else (((skp s p + (Not.scanN (rest s (skp s p))).1 : Nat)) : Int), ((0 : Nat) : Int)) := Not.scanI_in s (skp s p) hJ _ 0 (Prod.ext rfl h1)
    rw [if_neg h2] at e1
    rw [e1] at c1
    have C1 := Lib.hid c1
    have hpc := pc_item hs hbJ hn
    have hit := nxt_item hn
    have C4 := Lib.hid (fun W h => comment_any s (skp s p) (skp s p + (Not.scanN (rest s (skp s p))).1) hs hsz hpc vt vn (toksL acc) (notesP s acc p) (accS s acc).gap (lastS s acc) (by omega) w0 W h)
    obtain ⟨k1, k2, k3⟩ := notes_note hat hn rfl
    have HK1 := Lib.hid k1
    have HK2 := Lib.hid k2
    have HK3 := Lib.hid k3
    have HTK : Hid (toksL (acc ++ [⟨-1, skp s p, skp s p + (Not.scanN (rest s (skp s p))).1⟩]) = toksL acc) := by
      unfold Hid
      rw [toksL_add]
      rfl
    have HNX := Lib.hid hn
    have HBE := Lib.hid (bd_to hpc)
    have HFE := Lib.hid hpc.fits
    have b1 : decide ((((skp s p + (Not.scanN (rest s (skp s p))).1 : Nat)) : Int) > 0) = true := decide_eq_true (by omega)
    have b2 : decide (0 < skp s p + (Not.scanN (rest s (skp s p))).1) = true := decide_eq_true (by omega)
    have b3 : decide ((0 : Int) < (((skp s p + (Not.scanN (rest s (skp s p))).1 : Nat)) : Int)) = true := decide_eq_true (by omega)
    have hsk := skp_le s _ hpc.fits
    have HSK := Lib.hid hsk
    clear c1 h0 h1 h2 hn e1 h hN hat hs hsz hbJ htl hnl hgl hJ hp0 k1 k2 k3 hpc hit hsk
    generalize skp s p + (Not.scanN (rest s (skp s p))).1 = E at *
    generalize hJJ : skp s p = J at *
    have HJJ := Lib.hid hJJ
    clear hJJ
    go_enter Tryz.func22, Tryz.ntmps22
    go_wp2_with fail
    go_region_held3 (fun w' => w'.cell? ⟨w0.heap.size, 0, none⟩ = some (.string s) ∧ w'.cell? ⟨w0.heap.size, 1, none⟩ = some (.int .i64 (J : Int))) (go_keep) (first
      | (go_at_call 45; refine (C1.out _).mono ?_; rintro e w1 ⟨rfl, hb1⟩; have H1 := Lib.hid (H.out.below (undrew (n := 1) hb1) (Nat.le_refl _)); have e0 := H1.out.blk.c0; have e1 := H1.out.blk.c1; clear hb1))
    go_wp2_with fail
    refine (C4.out _ H1.out).mono ?_
    rintro e w2 ⟨rfl, vn', h2⟩
    go_wp2_with fail
    go_ret2
    refine .inr ⟨⟨-1, J, E⟩, skp s E, by rw [HJJ.out]; exact HNX.out, rfl, HSK.out, bd_skip HBE.out, skp_skp s E, vt, vn', ?_⟩
    rw [HTK.out, HK1.out, HK2.out, HK3.out]
    exact h2
  · have e1 := Not.scanI_in s (skp s p) hJ 0 0 h1
    rw [e1] at c1
    have C1 := Lib.hid c1
    have C2 := Lib.hid (fun W h hN => lexeme_any s (skp s p) hsz hJ w0.heap.size (lineS s (skp s p)) (colS s (skp s p)) vt vn (((accS s acc).gap : Nat) : Int) (lastS s acc) W h hN)
    have HNX := Lib.hid hn
    have e2 : Hid (lexI s (skp s p) = ((lexL (rest s (skp s p))).1, skp s p + (lexL (rest s (skp s p))).2.1, (lexL (rest s (skp s p))).2.2)) := rfl
    generalize lexI s (skp s p) = y at *
    generalize lexL (rest s (skp s p)) = z at *
    obtain ⟨z1, z2, z3⟩ := z
    dsimp only at *
    have C3 : Hid (∀ W, Lb W w0.heap.size s (skp s p) (lineS s (skp s p)) (colS s (skp s p)) vt vn (((accS s acc).gap : Nat) : Int) (lastS s acc) → Qt.Nam W → Calls Tryz.prog 47 #[.pointer (some ⟨w0.heap.size, 0, none⟩)] W fun e w' => e = .returned (.tuple #[.int .i64 z1, .int .i64 ((skp s p + z2 : Nat) : Int), .int .i64 z3]) ∧ Below W.heap.size W w') := fun W h hN => by
      have := C2.out W h hN
      rw [e2.out] at this
      exact this
    have b1 : (z3 != 0) = true := by rw [bne_iff_ne]; exact h2
    have HZ := Lib.hid h2
    clear c1 h0 h1 h2 hn e1 h hN hat hs hsz hbJ htl hnl hgl hJ hp0 C2 e2
    generalize skp s p + z2 = E at *
    generalize hJJ : skp s p = J at *
    have HJJ := Lib.hid hJJ
    clear hJJ
    go_enter Tryz.func22, Tryz.ntmps22
    go_wp2_with fail
    go_region_held3 (fun w' => w'.cell? ⟨w0.heap.size, 0, none⟩ = some (.string s) ∧ w'.cell? ⟨w0.heap.size, 1, none⟩ = some (.int .i64 (J : Int))) (go_keep) (first
      | (go_at_call 45; refine (C1.out _).mono ?_; rintro e w1 ⟨rfl, hb1⟩; have H1 := Lib.hid (H.out.below (undrew (n := 1) hb1) (Nat.le_refl _)); have e0 := H1.out.blk.c0; have e1 := H1.out.blk.c1; clear hb1))
    go_wp2_with fail
    refine (C3.out _ H1.out.blk (HN.out.below H1.out.bel (Nat.le_refl _))).mono ?_
    rintro e w2 ⟨rfl, hb2⟩
    have H2 := Lib.hid (H1.out.below hb2 (Nat.le_refl _))
    clear hb2
    go_wp2_with fail
    go_ret2
    exact .inl ⟨z3, E, by rw [HJJ.out]; exact HNX.out, HZ.out, rfl, H2.out.bel⟩
  · have e1 := Not.scanI_in s (skp s p) hJ 0 0 h1
    rw [e1] at c1
    have C1 := Lib.hid c1
    have hpc := pc_item hs hbJ hn
    have hit := nxt_item hn
    have hnt : isNote ⟨(lexL (rest s (skp s p))).1, skp s p, skp s p + (lexL (rest s (skp s p))).2.1⟩ = false := by
      have hk := (lex_kind _ h2).1
      exact decide_eq_false (show ¬ (lexL (rest s (skp s p))).1 < 0 by omega)
    have hcn := counts_is hn hnt
    obtain ⟨g1, g2⟩ := gap_tok (s := s) (acc := acc) hnt
    rw [hcn] at g1
    have hno := notes_tok (acc := acc) hn hnt
    have htk : toksL (acc ++ [⟨(lexL (rest s (skp s p))).1, skp s p, skp s p + (lexL (rest s (skp s p))).2.1⟩]) = toksL acc ++ [⟨(lexL (rest s (skp s p))).1, skp s p, skp s p + (lexL (rest s (skp s p))).2.1⟩] := by
      rw [toksL_add, if_neg (by rw [hnt]; decide)]
    have C2 := Lib.hid (fun W h hN => lexeme_any s (skp s p) hsz hJ w0.heap.size (lineS s (skp s p)) (colS s (skp s p)) vt vn (((accS s acc).gap : Nat) : Int) (lastS s acc) W h hN)
    have e2 : Hid (lexI s (skp s p) = ((lexL (rest s (skp s p))).1, skp s p + (lexL (rest s (skp s p))).2.1, (lexL (rest s (skp s p))).2.2)) := rfl
    have C3 : Hid (∀ W, Lb W w0.heap.size s (skp s p) (lineS s (skp s p)) (colS s (skp s p)) vt vn (((accS s acc).gap : Nat) : Int) (lastS s acc) → Qt.Nam W → Calls Tryz.prog 47 #[.pointer (some ⟨w0.heap.size, 0, none⟩)] W fun e w' => e = .returned (.tuple #[.int .i64 (lexL (rest s (skp s p))).1, .int .i64 ((skp s p + (lexL (rest s (skp s p))).2.1 : Nat) : Int), .int .i64 0]) ∧ Below W.heap.size W w') := fun W h hN => by
      have := C2.out W h hN
      rw [e2.out, h2] at this
      exact this
    have C4 := Lib.hid (fun W h => token_any s (skp s p) (skp s p + (lexL (rest s (skp s p))).2.1) (lexL (rest s (skp s p))).1 hs hsz hpc vt vn (toksL acc) (notesP s acc p) (((accS s acc).gap : Nat) : Int) (lastS s acc) (by omega) (by omega) w0 W h)
    have HNX := Lib.hid hn
    have HBE := Lib.hid (bd_to hpc)
    have HFE := Lib.hid hpc.fits
    have HG1 := Lib.hid g1
    have HG2 := Lib.hid g2
    have HNO := Lib.hid hno
    have HTK := Lib.hid htk
    clear c1 h0 h1 h2 hn e1 h hN hat hs hsz hbJ htl hnl hgl hJ hp0 hpc hit C2 e2 g1 g2 hno htk hcn hnt
    generalize skp s p + (lexL (rest s (skp s p))).2.1 = E at *
    generalize (lexL (rest s (skp s p))).1 = k at *
    generalize hJJ : skp s p = J at *
    have HJJ := Lib.hid hJJ
    clear hJJ
    go_enter Tryz.func22, Tryz.ntmps22
    go_wp2_with fail
    go_region_held3 (fun w' => w'.cell? ⟨w0.heap.size, 0, none⟩ = some (.string s) ∧ w'.cell? ⟨w0.heap.size, 1, none⟩ = some (.int .i64 (J : Int))) (go_keep) (first
      | (go_at_call 45; refine (C1.out _).mono ?_; rintro e w1 ⟨rfl, hb1⟩; have H1 := Lib.hid (H.out.below (undrew (n := 1) hb1) (Nat.le_refl _)); have e0 := H1.out.blk.c0; have e1 := H1.out.blk.c1; clear hb1))
    go_wp2_with fail
    refine (C3.out _ H1.out.blk (HN.out.below H1.out.bel (Nat.le_refl _))).mono ?_
    rintro e w2 ⟨rfl, hb2⟩
    have H2 := Lib.hid (H1.out.below hb2 (Nat.le_refl _))
    clear hb2
    go_wp2_with fail
    refine (C4.out _ H2.out).mono ?_
    rintro e w3 ⟨rfl, vt', h3⟩
    go_wp2_with fail
    go_ret2
    refine .inr ⟨⟨k, J, E⟩, E, by rw [HJJ.out]; exact HNX.out, rfl, HFE.out, HBE.out, rfl, vt', vn, ?_⟩
    rw [HTK.out, HNO.out, HG1.out, HG2.out]
    have : (((if countsT (txt s ⟨k, J, E⟩) = true then (accS s acc).gap + 1 else (accS s acc).gap : Nat)) : Int) = if countsT (s.extract J E) = true then (((accS s acc).gap : Nat) : Int) + 1 else (((accS s acc).gap : Nat) : Int) := by
      show (((if countsT (s.extract J E) = true then (accS s acc).gap + 1 else (accS s acc).gap : Nat)) : Int) = _
      split
      · omega
      · rfl
    rw [this]
    exact h3
end Go.Proofs.YtmgclgojmckfhaaGreatDoor.Lx
/-
  The contracts of the method read of the program's lexer, and of Lex. Conditions: the string has at most 2^50 bytes; the program's list of names stands.
-/
namespace Go.Proofs.YtmgclgojmckfhaaGreatDoor.Lx
open Go.RowKit Gly
open Wrd (rn wd)
set_option linter.unusedSimpArgs false
set_option linter.unusedVariables false

/-- Where a lexer stands. -/
def posOf (w : World) (b : Nat) : Nat := ((w.cell? ⟨b, 1, none⟩).map fun v => (intOf v).toNat).getD 0
theorem Lb.pos {w : World} {b : Nat} {s : ByteArray} {i : Nat} {L C : Int} {vt vn : Value} {g l : Int} (h : Lb w b s i L C vt vn g l) : posOf w b = i := by
  unfold posOf
  rw [h.c1]
  simp [intOf]
def ReadOut (s : ByteArray) (w0 : World) (e : Ending) (w' : World) : Prop :=
  e = .returned (.tuple #[.int .i64 (((lexS s).2.2 : Nat) : Int), .int .i64 (lexS s).2.1]) ∧ Below w0.heap.size w0 w' ∧
    ((lexS s).2.1 = 0 → (lexS s).2.2 = 0 ∧ ∃ i L C vt vn g l, Lr s w0 w' i L C vt vn (toksL (lexS s).1) (notesL s (lexS s).1) g l)
set_option maxHeartbeats 4000000 in
theorem read_any (s : ByteArray) (hs : Ok (rest s 0)) (hsz : s.size ≤ 16777216) (vt vn : Value) (w0 w : World) (hN : Qt.Nam w0)
    (h : Lr s w0 w 0 (lineS s 0) (colS s 0) vt vn [] [] 0 0) :
    Calls Tryz.prog 12 #[.pointer (some ⟨w0.heap.size, 0, none⟩)] w (ReadOut s w0) := by
  have C1 := Lib.hid (fun i hi hb vt vn g l W h => skip_any s i hs hsz hi hb w0.heap.size vt vn g l W h)
  have C2 := Lib.hid (fun p acc hat hJ vt vn W h => next_any s p acc hs hsz hat hJ vt vn w0 W hN h)
  have H := Lib.hid h
  clear h hN
  go_enter Tryz.func12, Tryz.ntmps12
  go_wp2_with fail
  refine (C1.out 0 (Nat.zero_le _) (.zero _) _ _ _ _ _ H.out.blk).mono ?_
  rintro e w1 ⟨rfl, h1, g1⟩
  have H1 := Lib.hid (H.out.moved h1 g1)
  clear h1 g1 H
  go_wp2_with fail
  go_loopw [2, 3] (fun _ _ wr => ∃ (p : Nat) (acc : List It) (vt vn : Value), At s p acc ∧
      Lr s w0 wr (skp s p) (lineS s (skp s p)) (colS s (skp s p)) vt vn (toksL acc) (notesP s acc p) (((accS s acc).gap : Nat) : Int) (lastS s acc)) (fun _ _ wr => s.size - posOf wr w0.heap.size)
  case atStart => exact ⟨0, [], vt, vn, .start, H1.out⟩
  case round =>
    obtain ⟨p, acc, vt, vn, hat, hr⟩ := hrel
    have HR := Lib.hid hr
    have HAT := Lib.hid hat
    have a0 := hr.blk.c0
    have a1 := hr.blk.c1
    have hq := hr.blk.pos
    have HQ := Lib.hid hq
    clear hr hat hq H1
    by_cases hJ : skp s p < s.size
    · have HJ := Lib.hid hJ
      have b1 : decide (((skp s p : Nat) : Int) < (s.size : Int)) = true := decide_eq_true (by omega)
      have b2 : decide (skp s p < s.size) = true := decide_eq_true hJ
      clear hJ
      generalize hJJ : skp s p = J at *
      have HJJ := Lib.hid hJJ
      clear hJJ
      go_wp2_with fail
      go_quiet (fail)
      have HR2 := Lib.hid (HR.out.drew nq)
      generalize wr.drewN nq = W2 at HR2 ⊢
      clear a0 a1
      go_wp2_with fail
      have c2 := C2.out p acc HAT.out (by rw [HJJ.out]; exact HJ.out) vt vn W2 (by rw [HJJ.out]; exact HR2.out)
      refine c2.mono ?_
      clear c2
      rintro e w3 (⟨x, q, hn, hx, rfl, hb⟩ | ⟨t, q, hn, rfl, hq, hbq, hsq, vt', vn', h3⟩)
      · have hx2 : (x != 0) = true := by rw [bne_iff_ne]; exact hx
        have HX := Lib.hid hx
        have HNX := Lib.hid hn
        clear hx hn
        go_wp2_with fail
        go_ret2
        have hl := HAT.out.bad HNX.out
        refine ⟨by rw [hl]; rfl, hb, fun z => ?_⟩
        rw [hl] at z
        exact absurd z HX.out
      · have HNX := Lib.hid hn
        have HSQ := Lib.hid hsq
        clear hn hsq
        go_wp2_with fail
        refine (C1.out q hq hbq _ _ _ _ _ h3.blk).mono ?_
        rintro e w4 ⟨rfl, h4, g4⟩
        have H4 := Lib.hid (h3.moved h4 g4)
        clear h4 g4 h3
        go_wp2_with fail
        go_roundw
        case rel =>
          refine ⟨t.to, acc ++ [t], vt', vn', HAT.out.more (by rw [HJJ.out]; rw [HJJ.out] at HNX; exact HNX.out), ?_⟩
          rw [← HSQ.out]
          exact H4.out
        case measure =>
          have k1 := H4.out.blk.pos
          rw [k1, HQ.out, HSQ.out]
          have hn := HNX.out
          rw [HJJ.out] at hn
          have := nxt_item hn
          have k2 := skp_ge s t.to
          have := HJ.out
          omega
    · have HJ := Lib.hid hJ
      have b1 : decide (((skp s p : Nat) : Int) < (s.size : Int)) = false := decide_eq_false (by omega)
      have b2 : decide (skp s p < s.size) = false := decide_eq_false hJ
      clear hJ
      generalize hJJ : skp s p = J at *
      have HJJ := Lib.hid hJJ
      clear hJJ
      go_wp2_with fail
      go_quiet (fail)
      go_wp2_with fail
      go_ret2
      have hn : nxt s (skp s p) = .fin := by
        unfold nxt
        rw [if_pos (by rw [HJJ.out]; have := HJ.out; omega)]
      have hl := HAT.out.fin hn
      have hp : notesP s acc p = notesL s acc := notes_end s acc p (by rw [HJJ.out]; have := HJ.out; omega)
      refine ⟨by rw [hl]; rfl, Plc.below_drewN HR.out.bel _, fun _ => ⟨by rw [hl], J, lineS s J, colS s J, vt, vn, (((accS s acc).gap : Nat) : Int), lastS s acc, ?_⟩⟩
      rw [hl, ← hp]
      exact HR.out.drew _

theorem spot_zero (s : ByteArray) : lineS s 0 = 1 ∧ colS s 0 = 1 := by
  have := spot_bd s 0
  omega
/-- What Lex answers. -/
def LexOut4 (s : ByteArray) (w : World) (e : Ending) (w' : World) : Prop :=
  ∃ vt vn, e = .returned (.tuple #[vt, vn, .int .i64 ((posS s : Nat) : Int), .int .i64 (errS s)]) ∧ Toks s w' w.heap.size vt (toksL (itemsS s)) ∧ Notes s w' w.heap.size vn (if errS s = 0 then notesL s (itemsS s) else []) ∧ Below w.heap.size w w' ∧ (∀ b, vt.ownBlock = some b → vn.ownBlock ≠ some b)
set_option maxHeartbeats 2000000 in
theorem lex_any (s : ByteArray) (hs : s.size ≤ 1125899906842624) (w : World) (hN : Qt.Nam w) :
    Calls Tryz.prog 5 #[.string s] w (LexOut4 s w) := by
  have C0 := Lib.hid (fun W => lexcheck_any s hs W)
  have HN := Lib.hid hN
  clear hN
  by_cases h0 : runesE s = 0
  · have e0 : Hid (∀ W, Calls Tryz.prog 11 #[.string s] W fun e w' => e = .returned (.tuple #[.int .i64 ((runesN s : Nat) : Int), .int .i64 0]) ∧ Below W.heap.size W w') := fun W => by
      have := C0.out W
      rw [h0] at this
      exact this
    obtain ⟨k1, k2⟩ := runes_ok s h0
    have C1 := Lib.hid (fun vt vn w0 w hN h => read_any s (by rw [rest_zero]; exact k1) k2 vt vn w0 w hN h)
    have HE : Hid (errS s = (lexS s).2.1 ∧ posS s = (lexS s).2.2) := by
      unfold Hid errS posS
      rw [if_neg (by omega), if_neg (by omega)]
      exact ⟨rfl, rfl⟩
    have HZ := Lib.hid (spot_zero s)
    clear C0 h0 k1 k2
    generalize runesN s = rn0 at e0
    obtain ⟨x, hx⟩ : ∃ x, x = (lexS s).2.1 := ⟨_, rfl⟩
    obtain ⟨q, hq⟩ : ∃ q, q = (lexS s).2.2 := ⟨_, rfl⟩
    have HX := Lib.hid hx
    have HQ := Lib.hid hq
    clear hx hq
    go_enter Tryz.func5, Tryz.ntmps5
    go_wp2_with fail
    refine (e0.out _).mono ?_
    rintro e w1 ⟨rfl, hb1⟩
    have HB1 := Lib.hid hb1
    clear hb1
    go_wp2_with fail
    have H1 : Hid (Lr s w1 (w1.alloc (.cells #[.string s, .int .i64 0, .int .i64 1, .int .i64 1, .slice none 0 0, .slice none 0 0, .int .i64 0, .int .i64 0] 47)) 0 (lineS s 0) (colS s 0) (.slice none 0 0) (.slice none 0 0) [] [] 0 0) := by
      refine ⟨?_, Toks.nil _ _ _, Notes.nil _ _ _, fun b h => by simp [Value.ownBlock] at h, (Below.refl _ _).alloc (Nat.le_refl _) _⟩
      rw [HZ.out.1, HZ.out.2]
      exact heap_alloc_new w1 _
    refine (C1.out _ _ w1 _ (HN.out.below HB1.out (Nat.le_refl _)) H1.out).mono ?_
    rintro e w2 ⟨rfl, hb2, h2⟩
    rw [← HX.out, ← HQ.out]
    have HB2 := Lib.hid hb2
    have H2 := Lib.hid h2
    clear hb2 h2
    by_cases hz : x = 0
    · obtain ⟨z1, i, L, C, vt, vn, g, l, hr⟩ := H2.out (by rw [← HX.out]; exact hz)
      have hx0 : (lexS s).2.1 = 0 := by rw [← HX.out]; exact hz
      subst hz
      have HR := Lib.hid hr
      have a4 := hr.blk.c4
      have a5 := hr.blk.c5
      have hq0 : q = 0 := by rw [HQ.out]; exact z1
      have HX0 := Lib.hid hx0
      subst hq0
      clear hr hx0 z1
      go_wp2_with fail
      go_quiet (fail)
      go_wp2_with fail
      (try simp only [Exit.inBlock, Exit.then]); refine bodyPost_ret (Go.Proofs.YtmgclgojmckfhaaGreatDoor.Qt.results_tmp4 rfl _ _ _) rfl ?_
      have hi : itemsS s = (lexS s).1 := by
        unfold itemsS
        rw [if_pos (by rw [HE.out.1]; exact HX0.out)]
      refine ⟨vt, vn, by rw [HE.out.1, HE.out.2, ← HX.out, ← HQ.out]; rfl, ?_, ?_, Plc.below_drewN (HB1.out.trans (HB2.out.mono HB1.out.size)) _, HR.out.sep⟩
      · rw [hi]
        exact World.ownsRow.mono (HR.out.drew _).tok (by have := HB1.out.size; omega)
      · rw [hi, if_pos (by rw [HE.out.1]; exact HX0.out)]
        exact World.ownsRow.mono (HR.out.drew _).nts (by have := HB1.out.size; omega)
    · have b1 : (x != 0) = true := by rw [bne_iff_ne]; exact hz
      have HZZ := Lib.hid hz
      clear hz H2
      go_wp2_with fail
      (try simp only [Exit.inBlock, Exit.then]); refine bodyPost_ret (Go.Proofs.YtmgclgojmckfhaaGreatDoor.Qt.results_tmp4 rfl _ _ _) rfl ?_
      have hne : ¬ errS s = 0 := by rw [HE.out.1, ← HX.out]; exact HZZ.out
      have hi : itemsS s = [] := by unfold itemsS; rw [if_neg hne]
      exact ⟨_, _, by rw [HE.out.1, HE.out.2, ← HX.out, ← HQ.out]; rfl, by rw [hi]; exact Toks.nil _ _ _, by rw [if_neg hne]; exact Notes.nil _ _ _, HB1.out.trans (HB2.out.mono HB1.out.size), fun b h => by simp [Value.ownBlock] at h⟩
  · have HE : Hid (errS s = runesE s ∧ posS s = runesN s) := by
      unfold Hid errS posS
      rw [if_pos h0, if_pos h0]
      exact ⟨rfl, rfl⟩
    have HZ := Lib.hid h0
    have hb : (runesE s != 0) = true := by rw [bne_iff_ne]; exact h0
    clear h0
    generalize runesE s = re at *
    generalize runesN s = rn0 at *
    go_enter Tryz.func5, Tryz.ntmps5
    go_wp2_with fail
    refine (C0.out _).mono ?_
    rintro e w1 ⟨rfl, hb1⟩
    have HB1 := Lib.hid hb1
    clear hb1
    go_wp2_with fail
    (try simp only [Exit.inBlock, Exit.then]); refine bodyPost_ret (Go.Proofs.YtmgclgojmckfhaaGreatDoor.Qt.results_tmp4 rfl _ _ _) rfl ?_
    have hne : ¬ errS s = 0 := by rw [HE.out.1]; exact HZ.out
    have hi : itemsS s = [] := by unfold itemsS; rw [if_neg hne]
    exact ⟨_, _, by rw [HE.out.1, HE.out.2]; rfl, by rw [hi]; exact Toks.nil _ _ _, by rw [if_neg hne]; exact Notes.nil _ _ _, HB1.out, fun b h => by simp [Value.ownBlock] at h⟩
end Go.Proofs.YtmgclgojmckfhaaGreatDoor.Lx
/-
  The contract of layer 7's awake: it answers true. Condition: the program's list of names stands.
-/
namespace Go.Proofs.YtmgclgojmckfhaaGreatDoor.Lx
open Go.RowKit Gly
set_option linter.unusedSimpArgs false
set_option linter.unusedVariables false

end Go.Proofs.YtmgclgojmckfhaaGreatDoor.Lx
