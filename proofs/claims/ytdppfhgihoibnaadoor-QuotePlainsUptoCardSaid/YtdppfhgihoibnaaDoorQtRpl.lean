/-
  The contract of the document's own Plain, and the walk of QuotePlains. Conditions: the string has at most 2^20 bytes; the library's table of powers of ten and the program's list of names stand.
-/
import Derived.Test.YtdppfhgihoibnaaDoorQtRsc
import Derived.Test.YtdppfhgihoibnaaDoorQtRby
import Derived.Test.YtdppfhgihoibnaaDoorQtMns
namespace Go.Proofs.YtdppfhgihoibnaaDoor.Qt
open Go.RowKit Gly
open Wrd (rn wd)
open Go.Lib (decodeL)
set_option linter.unusedSimpArgs false
set_option linter.unusedVariables false

/-- How an escape ends. -/
def EscEnd (L : List UInt8) (e : Nat) : Prop := (hd (L.drop 1) = 38 ∧ e = 2) ∨ (hd (L.drop 1) ≠ 38 ∧ (escE (L.drop 1)).2 ≠ 0 ∧ (escE (L.drop 1)).1 ≤ 1114111 ∧ e = 1 + (escE (L.drop 1)).2)
/-- What the document's own Plain makes of a row. -/
inductive Pl : List UInt8 → List UInt8 → Prop
  | nil : Pl [] []
  | byte {x : UInt8} {t o : List UInt8} (h0 : x.toNat ≠ 92) (h1 : Pl t o) : Pl (x :: t) (x :: o)
  | gap {L o : List UInt8} (h0 : hd L = 92) (h1 : gapN L ≠ 0) (h2 : Pl (L.drop (gapN L)) o) : Pl L ([92, 32, 92] ++ o)
  | esc {L o : List UInt8} {e : Nat} (h0 : hd L = 92) (h1 : gapN L = 0) (h2 : EscEnd L e) (h3 : e ≤ L.length) (h4 : 1 ≤ e) (h5 : Pl (L.drop e) o) : Pl L (L.take e ++ o)
theorem Pl.run : ∀ (xs t o : List UInt8), (∀ x ∈ xs, x.toNat ≠ 92) → Pl t o → Pl (xs ++ t) (xs ++ o)
  | [], _, _, _, h => h
  | x :: xs, t, o, hx, h => .byte (hx x (by simp)) (Pl.run xs t o (fun y hy => hx y (by simp [hy])) h)
theorem piece_pl (L : List UInt8) (p : Pc) (h : pieceL L = .ok p) (o : List UInt8) (ho : Pl (L.drop p.bytes.length) o) : Pl L ((narrow p).bytes ++ o) := by
  rcases piece_cases L p h with ⟨h1, h2, rfl⟩ | ⟨h1, h2, h3, rfl⟩ | ⟨h1, h2, h3, h4, h5, rfl⟩ | ⟨h1, h2, h3, rfl⟩
  · have hl := len_of_hd L 38 1 h2 (by omega)
    have e2 : (L.take 2).length = 2 := by rw [List.length_take]; omega
    dsimp only at ho
    rw [e2] at ho
    exact .esc h1 (gap_none L (by omega) (by omega)) (.inl ⟨h2, rfl⟩) (by omega) (by omega) ho
  · have e2 : (L.take (gapN L)).length = gapN L := by
      rcases gap_cases L with q | ⟨k, q1, q2, q3, q4, q5⟩
      · exact absurd q h3
      · rw [List.length_take]
        omega
    dsimp only at ho
    rw [e2] at ho
    exact .gap h1 h3 ho
  · obtain ⟨b1, -⟩ := escE_bytes _ h4
    rw [List.length_drop] at b1
    have hne : 1 ≤ L.length := by
      rcases Nat.eq_zero_or_pos L.length with q | q
      · rw [List.eq_nil_of_length_eq_zero q] at h1
        exact absurd h1 (by decide)
      · exact q
    have e2 : (L.take (1 + (escE (L.drop 1)).2)).length = 1 + (escE (L.drop 1)).2 := by rw [List.length_take]; omega
    dsimp only at ho
    rw [e2] at ho
    exact .esc h1 h3 (.inr ⟨h2, h4, h5, rfl⟩) (by omega) (by omega) ho
  · have hw := Wrd.wd_le L h2
    have e2 : (L.take (wd L)).length = wd L := by rw [List.length_take]; omega
    dsimp only at ho
    rw [e2] at ho
    have hb : ∀ x ∈ L.take (wd L), x.toNat ≠ 92 := by
      rcases Int.lt_or_le (rn L) 128 with q | q
      · obtain ⟨r1, r2⟩ := ascii_rn L q
        rw [r1]
        cases L with
        | nil => exact absurd rfl h2
        | cons y t =>
          intro x hx
          rw [List.take_succ_cons, List.take_zero, List.mem_singleton] at hx
          rw [hx]
          exact h1
      · intro x hx
        have hne : decodeL L ≠ (65533, 1) := by
          intro e
          unfold mayB at h3
          have e1 : rn L = 65533 ∧ wd L = 1 := by unfold rn wd; rw [e]; exact ⟨rfl, rfl⟩
          rw [if_pos e1] at h3
          cases h3
        have := rn_wide L q hne x hx
        omega
    have := Pl.run _ _ _ hb ho
    rw [List.take_append_drop] at this
    exact this
theorem txt_pl {L r : List UInt8} {ps : List Pc} (h : Txt L ps r) (o : List UInt8) (ho : Pl r o) : Pl L (flat (ps.map narrow) ++ 34 :: o) := by
  induction h with
  | last r => exact .byte (by decide) ho
  | @more L r p ps h0 h1 h2 ih =>
    rw [List.map_cons, flat_cons, List.append_assoc]
    exact piece_pl L p h1 _ (ih ho)
theorem plain_pl (L : List UInt8) (h : wholeL L = 0) : Pl L (plainL L) := by
  obtain ⟨hq, h0, hl⟩ := whole_ok L h
  obtain ⟨w1, w2⟩ := whole_form L h
  unfold plainL
  rw [if_pos h]
  rcases read_ok L hq h0 with ⟨q, r, e, h1, h2⟩ | ⟨q, p, r, h3, h1, e, h2, h4, h5, h6⟩
  · have hlen := congrArg List.length e
    rw [List.length_cons, List.length_append, List.length_cons] at hlen
    obtain rfl : r = [] := List.eq_nil_of_length_eq_zero (by omega)
    have e1 : L.take 1 = [34] := by rw [e]; rfl
    rw [e1]
    have hL : L = 34 :: L.drop 1 := by
      conv => lhs; rw [← List.take_append_drop 1 L, e1]
      rfl
    have := txt_pl h1 [] .nil
    have h9 : Pl (34 :: L.drop 1) (34 :: (flat ((readL L).ps.map narrow) ++ [34])) := .byte (by decide) this
    rw [← hL] at h9
    exact h9
  · have hlen := congrArg List.length e
    rw [List.length_cons, List.length_append, List.length_cons] at hlen
    have ef : flat (readL L).ps = p.bytes := by rw [h3]; simp [flat]
    rw [ef] at w1
    obtain rfl : r = [] := List.eq_nil_of_length_eq_zero (by omega)
    have e1 : L.take 1 = [39] := by rw [e]; rfl
    rw [e1, h3]
    have hL : L = 39 :: L.drop 1 := by
      conv => lhs; rw [← List.take_append_drop 1 L, e1]
      rfl
    have hd2 : (L.drop 1).drop p.bytes.length = [39] := by
      rw [e, List.drop_succ_cons, List.drop_zero, List.drop_left]
    have h8 : Pl ((L.drop 1).drop p.bytes.length) [39] := by
      rw [hd2]
      exact .byte (by decide) .nil
    have h9 : Pl (39 :: L.drop 1) (39 :: ((narrow p).bytes ++ [39])) := .byte (by decide) (piece_pl _ p h2 _ h8)
    rw [← hL] at h9
    have ef2 : flat ([p].map narrow) = (narrow p).bytes := by simp [flat]
    rw [ef2]
    exact h9
theorem pl_cases {L o : List UInt8} (h : Pl L o) : (L = [] ∧ o = []) ∨ (∃ x t q, L = x :: t ∧ o = x :: q ∧ x.toNat ≠ 92 ∧ Pl t q) ∨ (∃ q, o = [92, 32, 92] ++ q ∧ hd L = 92 ∧ gapN L ≠ 0 ∧ Pl (L.drop (gapN L)) q) ∨ (∃ q e, o = L.take e ++ q ∧ hd L = 92 ∧ gapN L = 0 ∧ EscEnd L e ∧ e ≤ L.length ∧ 1 ≤ e ∧ Pl (L.drop e) q) := by
  cases h with
  | nil => exact .inl ⟨rfl, rfl⟩
  | byte h0 h1 => exact .inr (.inl ⟨_, _, _, rfl, rfl, h0, h1⟩)
  | gap h0 h1 h2 => exact .inr (.inr (.inl ⟨_, rfl, h0, h1, h2⟩))
  | esc h0 h1 h2 h3 h4 h5 => exact .inr (.inr (.inr ⟨_, _, rfl, h0, h1, h2, h3, h4, h5⟩))
theorem refescape_end (s : ByteArray) (n e : Nat) (hs : s.size ≤ 1125899906842624) (hn : n < s.size) (h : EscEnd (rest s n) e) (w : World) :
    Calls Tryd.prog 35 #[.string s, .int .i64 (n : Int)] w fun x w' => (∃ v : Int, x = .returned (.tuple #[.int .i64 v, .int .i64 ((n + e : Nat) : Int)])) ∧ Below w.heap.size w w' := by
  have hd1 : (rest s n).drop 1 = rest s (n + 1) := rest_drop s n 1
  unfold EscEnd at h
  rw [hd1] at h
  rcases h with ⟨h1, rfl⟩ | ⟨h1, h2, h3, rfl⟩
  · refine (refescape_38 s n hs hn h1 w).mono ?_
    rintro x w' ⟨rfl, hb⟩
    exact ⟨⟨_, rfl⟩, hb⟩
  · refine (refescape_ok s n hs hn h2 h3 w).mono ?_
    rintro x w' ⟨rfl, hb⟩
    exact ⟨⟨_, by rw [Nat.add_assoc]⟩, hb⟩
theorem refplain_bad (s : ByteArray) (x : Int) (hx : (x != 0) = true) (C : Hid (∀ W, Calls Tryd.prog 14 #[.string s] W fun e w' => ∃ v, e = .returned (.tuple #[v, .int .i64 x]) ∧ Below W.heap.size W w')) (w : World) :
    Calls Tryd.prog 19 #[.string s] w fun e w' => e = .returned (.tuple #[.string ⟨#[]⟩, .int .i64 x]) ∧ Below w.heap.size w w' := by
  go_enter Tryd.func19, Tryd.ntmps19
  go_wp2_with fail
  refine (C.out _).mono ?_
  rintro e w1 ⟨v, rfl, hb1⟩
  have HB := Lib.hid hb1
  clear hb1
  go_wp2_with fail
  go_ret2
  exact ⟨rfl, HB.out⟩
set_option maxHeartbeats 1000000 in
set_option maxRecDepth 20000 in
theorem refplain_ok (s : ByteArray) (hs : s.size ≤ 1048576) (T : List UInt8) (hT : T.length ≤ s.size) (hP : Pl (rest s 0) T) (C0 : Hid (∀ W, Calls Tryd.prog 14 #[.string s] W fun e w' => ∃ v, e = .returned (.tuple #[v, .int .i64 0]) ∧ Below W.heap.size W w')) (w : World) :
    Calls Tryd.prog 19 #[.string s] w fun e w' => e = .returned (.tuple #[.string ⟨T.toArray⟩, .int .i64 0]) ∧ Below w.heap.size w w' := by
  obtain ⟨i0, hi, hz0, hz1, hz2⟩ := info_parts infoByte
  have HP := Lib.hid hP
  have HTL := Lib.hid hT
  clear hP hT
  go_enter Tryd.func19, Tryd.ntmps19
  go_wp2_with fail
  refine (C0.out _).mono ?_
  rintro e w1 ⟨v, rfl, hb1⟩
  have HB := Lib.hid hb1
  clear hb1
  go_wp2_with fail
  go_loopw [6, 7] (fun bv iv wr => ∃ (bs o : List UInt8) (i : Nat), iv = .int .i64 (i : Int) ∧ i ≤ s.size ∧ Bytes wr w.heap.size bv bs ∧ Below w.heap.size w wr ∧ bs ++ o = T ∧ Pl (rest s i) o) (fun _ iv _ => s.size - (intOf iv).toNat)
  case atStart => exact ⟨[], T, 0, rfl, Nat.zero_le _, Bytes.nil _ _, HB.out, rfl, HP.out⟩
  case round =>
    obtain ⟨bs, o, i, rfl, hi0, hown, hbw, ht, hpl⟩ := hrel
    have OWN := Lib.hid hown
    have BW := Lib.hid hbw
    have HT := Lib.hid ht
    have hd0 : (0 : Int) ≤ (i : Int) := by omega
    have hbl : bs.length + o.length ≤ 1048576 := by
      have := congrArg List.length ht
      rw [List.length_append] at this
      have := HTL.out
      omega
    have hrl := rest_len s i
    rcases pl_cases hpl with ⟨h1, rfl⟩ | ⟨x, t, q, h1, rfl, h2, h3⟩ | ⟨q, rfl, h1, h2, h3⟩ | ⟨q, e, rfl, h1, h2, h3, h4, h5, h6⟩
    · have hi1 : ¬ i < s.size := by
        rw [h1] at hrl
        simp at hrl
        omega
      have hcv := OWN.out.text
      have HE : Hid (bs = T) := by unfold Hid; rw [← ht, List.append_nil]
      rw [HE.out] at hcv
      clear hown hbw ht hpl hbl hrl h1
      go_wp2_with fail
      go_ret2
      exact ⟨rfl, BW.out⟩
    · have hi1 : i < s.size := by
        rw [h1] at hrl
        simp at hrl
        omega
      have hc := rest_cons s i hi1
      rw [h1] at hc
      injection hc with hc1 hc2
      rw [hc2] at h3
      have x1 : (((s[i].toNat : Nat) : Int) == 92) = false := by rw [beq_eq_false_iff_ne, ← hc1]; omega
      have hst := sub_take s i 1
      rw [h1, List.take_succ_cons, List.take_zero] at hst
      have hsz : (s.extract i (i + 1)).size = 1 := by rw [Lib.size_eq, hst]; rfl
      have HPL := Lib.hid h3
      have HST := Lib.hid hst
      have HSZ := Lib.hid hsz
      have HSU : Hid (List.take 1 (List.drop i s.data.toList) = [x]) := by
        unfold Hid
        show (rest s i).take 1 = [x]
        rw [h1]
        rfl
      rw [List.length_cons] at hbl
      have j1 : (i : Int) ≤ (i : Int) + 1 := by omega
      have j2 : (i : Int) + 1 ≤ (s.size : Int) := by omega
      clear hown hbw ht hpl hrl h1 h2 h3 hc1 hc2 hst hsz
      go_wp2_with (first | (at_builtin; refine append_text _ rfl _ _ rfl w.heap.size _ bs rfl OWN.out (s.extract i (i + 1)) rfl ?c1 BW.out.size ?_))
      case c1 => rw [HSZ.out]; omega
      intro v' w3 hown' hgrow
      first | rw [HST.out] at hown' | rw [HSU.out] at hown'
      have OWN3 := Lib.hid hown'
      have BW3 := Lib.hid (after_bytes OWN.out BW.out BW.out.size hgrow)
      clear hown' hgrow
      go_wp2_with fail
      go_roundw
      case rel => exact ⟨bs ++ [x], q, i + 1, by go_num, by omega, OWN3.out, BW3.out, by rw [List.append_assoc]; exact HT.out, HPL.out⟩
      case measure => simp [intOf]; omega
    · have hi1 : i < s.size := by
        rcases Nat.lt_or_ge i s.size with h | h
        · exact h
        · rw [hd_rest_out s i h] at h1
          exact absurd h1 (by decide)
      rw [hd_rest s i hi1] at h1
      have x1 : (((s[i].toNat : Nat) : Int) == 92) = true := by rw [beq_iff_eq]; omega
      have cg := fun W => refgap_any s i (by omega) hi1 W
      rw [if_neg h2] at cg
      rw [rest_drop] at h3
      have hgl : i + gapN (rest s i) ≤ s.size := by
        rcases gap_cases (rest s i) with q | ⟨k, q1, q2, q3, q4, q5⟩
        · exact absurd q h2
        · omega
      obtain ⟨g, hg⟩ : ∃ g, i + gapN (rest s i) = g := ⟨_, rfl⟩
      rw [hg] at cg h3 hgl
      have hgi : i < g := by omega
      have x2 : decide ((0 : Int) < (g : Int)) = true := decide_eq_true (by omega)
      have HPL := Lib.hid h3
      have CG := Lib.hid cg
      rw [List.length_append] at hbl
      have hb3 : bs.length + 3 ≤ 140737488355328 := by simp at hbl; omega
      clear hown hbw ht hpl hrl h1 h2 h3 hg cg
      go_wp2_with fail
      refine (CG.out _).mono ?_
      rintro e w2 ⟨rfl, rfl⟩
      go_wp2_with (first | (at_builtin; refine append_bytes _ rfl _ _ rfl w.heap.size _ bs rfl (OWN.out.below ((Below.refl _ _).alloc (Nat.le_refl _) _)) wr.heap.size [92, 32, 92] 3 rfl rfl ?c1 hb3 ?c2 ?_))
      case c1 => exact heap_alloc_new _ _
      case c2 => have := BW.out.size; simp; omega
      intro v' w3 hown' hgrow
      have OWN3 := Lib.hid hown'
      have BW3 := Lib.hid (after_byte OWN.out BW.out BW.out.size hgrow)
      clear hown' hgrow
      go_wp2_with fail
      go_roundw
      case rel => exact ⟨bs ++ [92, 32, 92], q, g, rfl, hgl, OWN3.out, BW3.out, by rw [List.append_assoc]; exact HT.out, HPL.out⟩
      case measure => simp [intOf]; omega
    · have hi1 : i < s.size := by
        rcases Nat.lt_or_ge i s.size with h | h
        · exact h
        · rw [hd_rest_out s i h] at h1
          exact absurd h1 (by decide)
      rw [hd_rest s i hi1] at h1
      have x1 : (((s[i].toNat : Nat) : Int) == 92) = true := by rw [beq_iff_eq]; omega
      have cg := fun W => refgap_any s i (by omega) hi1 W
      rw [if_pos h2] at cg
      have ce := fun W => refescape_end s i e (by omega) hi1 h3 W
      rw [rest_drop] at h6
      rw [hrl] at h4
      have hst := sub_take s i e
      obtain ⟨g, hg⟩ : ∃ g, i + e = g := ⟨_, rfl⟩
      have hsz : (s.extract i g).size = e := by rw [← hg, Lib.size_eq, hst, List.length_take, hrl]; omega
      rw [hg] at ce h6 hst
      have hgs : g ≤ s.size := by omega
      have hgi : i < g := by omega
      have HPL := Lib.hid h6
      have CG := Lib.hid cg
      have CE := Lib.hid ce
      have HST := Lib.hid hst
      have HSZ := Lib.hid hsz
      have HSU : Hid (List.take (g - i) (List.drop i s.data.toList) = (rest s i).take e) := by
        unfold Hid
        rw [show g - i = e by omega]
        rfl
      rw [List.length_append] at hbl
      have e1 : (i : Int) + ((g : Int) - (i : Int)) = (g : Int) := by omega
      have j1 : (i : Int) ≤ (g : Int) := by omega
      have j2 : (g : Int) ≤ (s.size : Int) := by omega
      have hb3 : bs.length + e ≤ 140737488355328 := by omega
      clear hown hbw ht hpl hrl h1 h2 h3 h4 h5 h6 cg ce hst hsz hg
      go_wp2_with fail
      refine (CG.out _).mono ?_
      rintro e w2 ⟨rfl, rfl⟩
      go_wp2_with fail
      refine (CE.out _).mono ?_
      rintro e w2 ⟨⟨v, rfl⟩, hb2⟩
      have OWN2 := Lib.hid (OWN.out.below hb2)
      have BW2 := Lib.hid (BW.out.trans (hb2.mono BW.out.size))
      clear hb2
      go_wp2_with (first | (at_builtin; refine append_text _ rfl _ _ rfl w.heap.size _ bs rfl OWN2.out (s.extract i g) rfl ?c1 BW2.out.size ?_))
      case c1 => rw [HSZ.out]; exact hb3
      intro v' w3 hown' hgrow
      first | rw [HST.out] at hown' | rw [HSU.out] at hown'
      have OWN3 := Lib.hid hown'
      have BW3 := Lib.hid (after_bytes OWN2.out BW2.out BW2.out.size hgrow)
      clear hown' hgrow
      go_wp2_with fail
      go_roundw
      case rel => exact ⟨_, q, g, by go_num, hgs, OWN3.out, BW3.out, by rw [List.append_assoc]; exact HT.out, HPL.out⟩
      case measure => simp [intOf]; omega
theorem refplain_any (s : ByteArray) (hs : s.size ≤ 1048576) (w : World) :
    Calls Tryd.prog 19 #[.string s] w fun e w' => e = .returned (.tuple #[.string ⟨(plainL (rest s 0)).toArray⟩, .int .i64 (wholeL (rest s 0))]) ∧ Below w.heap.size w w' := by
  have c : ∀ W, Calls Tryd.prog 14 #[.string s] W fun e w' => ∃ v, e = .returned (.tuple #[v, .int .i64 (wholeL (rest s 0))]) ∧ Below W.heap.size W w' := fun W => by
    refine (refrunes_any s (by omega) W).mono ?_
    rintro e w' ⟨v, rfl, -, hb⟩
    exact ⟨v, rfl, hb⟩
  by_cases h : wholeL (rest s 0) = 0
  · have hpl := plain_len (rest s 0)
    rw [rest_len, Nat.sub_zero] at hpl
    rw [h] at c ⊢
    exact refplain_ok s hs _ hpl (plain_pl _ h) c w
  · have hp : plainL (rest s 0) = [] := by unfold plainL; rw [if_neg h]
    rw [hp]
    exact refplain_bad s _ (bne_iff_ne.2 h) c w
/-- QuotePlains. -/
theorem plains_two (s t : ByteArray) (x : Int) (w : World) (ht : Tab w)
    (C1 : Hid (∀ W, Nam W → Calls Tryd.prog 18 #[.string s] W fun e w' => e = .returned (.tuple #[.string t, .int .i64 x]) ∧ Below W.heap.size W w'))
    (C2 : Hid (∀ W, Calls Tryd.prog 19 #[.string s] W fun e w' => e = .returned (.tuple #[.string t, .int .i64 x]) ∧ Below W.heap.size W w')) :
    Calls Tryd.prog 6 #[.string s] w fun e w' => e = .returned (.bool true) ∧ Below w.heap.size w w' := by
  have HT := Lib.hid ht
  have A := Lib.hid (fun W (h : Tab W) => awake_any W h)
  have ett : (t.toList == t.toList) = true := beq_self_eq_true _
  clear ht
  go_enter Tryd.func6, Tryd.ntmps6
  go_wp2_with fail
  refine (C1.out _ HT.out.2).mono ?_
  rintro e w1 ⟨rfl, hb1⟩
  have HB1 := Lib.hid hb1
  clear hb1
  go_wp2_with fail
  refine (C2.out _).mono ?_
  rintro e w2 ⟨rfl, hb2⟩
  have HB2 := Lib.hid (HB1.out.trans (hb2.mono HB1.out.size))
  clear hb2
  go_wp2_with fail
  refine (A.out _ (HT.out.below HB2.out (Nat.le_refl _))).mono ?_
  rintro e w3 ⟨rfl, hb3⟩
  have HB3 := Lib.hid (HB2.out.trans (hb3.mono HB2.out.size))
  clear hb3
  go_wp2_with fail
  go_ret
  exact ⟨rfl, HB3.out⟩
theorem plains_walk (s : ByteArray) (hs : s.size ≤ 1048576) (w : World) (ht : Tab w) :
    Calls Tryd.prog 6 #[.string s] w fun e w' => e = .returned (.bool true) ∧ Below w.heap.size w w' :=
  plains_two s _ _ w ht (fun W h => Plain_any s (by omega) W h) (fun W => refplain_any s hs W)
end Go.Proofs.YtdppfhgihoibnaaDoor.Qt
