/-
  The walk of the law LexRises. Conditions: the string has at most 2^47 - 4096 bytes; the program's list of names stands.
-/
import Derived.Test.YtkehchajgdepaaaGreatDoorZLexB
import Derived.Test.YtkehchajgdepaaaGreatDoorZLexEq
import Derived.Test.YtkehchajgdepaaaGreatDoorZNotB
namespace Go.Proofs.YtkehchajgdepaaaGreatDoor.Lx
open Go.RowKit Gly
set_option linter.unusedSimpArgs false
set_option linter.unusedVariables false

theorem rises_tok (s : ByteArray) (h : errS s = 0) (k : Nat) (t u : It) (ht : (toksL (itemsS s))[k]? = some t) (hu : (toksL (itemsS s))[k + 1]? = some u) :
    lineS s t.fr < lineS s u.fr ∨ (lineS s t.fr = lineS s u.fr ∧ colS s t.fr < colS s u.fr) := by
  obtain ⟨h1, h2, h3⟩ := err_ok s h
  have hp := items_rise s (runes_ok s h1).1 (fun t => !isNote t)
  rw [h3] at ht hu
  exact pair_at hp k t u ht hu
theorem notes_its (s : ByteArray) (h : errS s = 0) : (notesL s (itemsS s)).map Nt.it = (lexS s).1.filter isNote := by
  obtain ⟨h1, h2, h3⟩ := err_ok s h
  rw [h3]
  exact (notes_told s (lexS s).1).its
theorem rises_note (s : ByteArray) (h : errS s = 0) (k : Nat) (m n : Nt) (hm : (notesL s (itemsS s))[k]? = some m) (hn : (notesL s (itemsS s))[k + 1]? = some n) :
    m.gap ≤ n.gap ∧ (lineS s m.it.fr < lineS s n.it.fr ∨ (lineS s m.it.fr = lineS s n.it.fr ∧ colS s m.it.fr < colS s n.it.fr)) := by
  obtain ⟨h1, h2, h3⟩ := err_ok s h
  have hp := items_rise s (runes_ok s h1).1 isNote
  have hi := notes_its s h
  have hg := (notes_told s (itemsS s)).rise
  have e1 : ((lexS s).1.filter isNote)[k]? = some m.it := by rw [← hi, List.getElem?_map, hm]; rfl
  have e2 : ((lexS s).1.filter isNote)[k + 1]? = some n.it := by rw [← hi, List.getElem?_map, hn]; rfl
  have g1 : ((notesL s (itemsS s)).map Nt.gap)[k]? = some m.gap := by rw [List.getElem?_map, hm]; rfl
  have g2 : ((notesL s (itemsS s)).map Nt.gap)[k + 1]? = some n.gap := by rw [List.getElem?_map, hn]; rfl
  exact ⟨pair_at hg k _ _ g1 g2, pair_at hp k _ _ e1 e2⟩
theorem note_fine (s : ByteArray) (h : errS s = 0) (k : Nat) (n : Nt) (hn : (notesL s (itemsS s))[k]? = some n) :
    Not.kindN (txt s n.it).data.toList ≠ 0 ∧ n.gap ≤ (toksL (itemsS s)).length ∧ 1 ≤ n.pl ∧ n.pl ≤ 3 := by
  have ht := notes_told s (itemsS s)
  have hmem := List.mem_of_getElem? hn
  have hi : n.it ∈ (lexS s).1.filter isNote := by
    rw [← notes_its s h]
    exact List.mem_map_of_mem hmem
  obtain ⟨m1, m2⟩ := List.mem_filter.1 hi
  refine ⟨note_kind s n.it m1 m2, ?_, ht.pls n hmem⟩
  have h1 := ht.last n.gap (List.mem_map_of_mem hmem)
  have h2 := ht.gapLe
  exact Nat.le_trans h1 h2
theorem txt_le (s : ByteArray) (t : It) : (txt s t).size ≤ s.size := by
  unfold txt
  rw [ByteArray.size_extract]
  omega
theorem rs_items (s : ByteArray) : (itemsS s).length ≤ 16777216 := by
  by_cases h : errS s = 0
  · obtain ⟨h1, h2, h3⟩ := err_ok s h
    obtain ⟨j, hj⟩ := at_lexS s
    have := hj.count
    have := hj.le
    have := (runes_ok s h1).2
    rw [h3]
    omega
  · unfold itemsS
    rw [if_neg h]
    exact Nat.zero_le _
theorem rs_toks (s : ByteArray) : (toksL (itemsS s)).length ≤ 16777216 := Nat.le_trans (List.length_filter_le _ _) (rs_items s)
theorem rs_notes (s : ByteArray) (h : errS s = 0) : (notesL s (itemsS s)).length ≤ 16777216 := by
  have := congrArg List.length (notes_told s (itemsS s)).its
  rw [List.length_map] at this
  unfold notesL
  rw [this]
  exact Nat.le_trans (List.length_filter_le _ _) (rs_items s)
theorem rs_step (k n : Nat) (hk : k ≤ n) (hm : n ≤ 16777216) : wrap64 ((k : Int) + 1) = ((k + 1 : Nat) : Int) := by
  have h1 : (k : Int) ≤ 16777216 := by omega
  have h2 : (0 : Int) ≤ (k : Int) := by omega
  have h3 : ((k + 1 : Nat) : Int) = (k : Int) + 1 := by omega
  rw [h3]
  generalize (k : Int) = z at h1 h2 ⊢
  unfold wrap64
  omega
theorem rs_back (j k n : Nat) (hj : j = k + 1) (hk : k ≤ n) (hm : n ≤ 16777216) : wrap64 ((j : Int) - 1) = (k : Int) := by
  have h1 : (k : Int) ≤ 16777216 := by omega
  have h2 : (0 : Int) ≤ (k : Int) := by omega
  have h3 : (j : Int) = (k : Int) + 1 := by omega
  rw [h3]
  generalize (k : Int) = z at h1 h2 ⊢
  unfold wrap64
  omega

set_option maxRecDepth 1000000 in
set_option maxHeartbeats 8000000 in
theorem rises_walk (s : ByteArray) (hs : s.size ≤ 140737488351232) (w : World) (hN : Qt.Nam w) :
    Calls Tryz.prog 6 #[.string s] w fun e w' => e = .returned (.bool true) ∧ Below w.heap.size w w' := by
  have C1 := Lib.hid (fun W hN => lex_any s (by omega) W hN)
  have C2 := Lib.hid (fun t W => Not.Kind_any (txt s t) (by have := txt_le s t; omega) W)
  have HN := Lib.hid hN
  clear hN
  go_enter Tryz.func6, Tryz.ntmps6
  go_wp2_with fail
  refine (awake_any _ HN.out).mono ?_
  rintro e w1 ⟨rfl, hb1⟩
  have HB1 := Lib.hid hb1
  have N1 := Lib.hid (HN.out.below hb1 (Nat.le_refl _))
  clear hb1
  go_wp2_with fail
  refine (C1.out _ N1.out).mono ?_
  rintro e w2 ⟨vt, vn, rfl, ht, hn, hb2, -⟩
  have HB2 := Lib.hid (HB1.out.trans (hb2.mono HB1.out.size))
  clear hb2
  obtain ⟨x, hx⟩ : ∃ x, x = errS s := ⟨_, rfl⟩
  rw [← hx]
  rw [← hx] at hn
  by_cases hx0 : x = 0
  · subst hx0
    rw [if_pos rfl] at hn
    have HE := Lib.hid hx.symm
    have HLT := Lib.hid (rs_toks s)
    have HLN := Lib.hid (rs_notes s hx.symm)
    obtain ⟨ta, tc, rfl⟩ := own_len ht
    obtain ⟨na, nc, rfl⟩ := own_len hn
    have HT := Lib.hid ht
    have HNT := Lib.hid hn
    have RT := Lib.hid (rises_tok s hx.symm)
    have RN := Lib.hid (rises_note s hx.symm)
    have FN := Lib.hid (note_fine s hx.symm)
    clear ht hn hx
    generalize toksL (itemsS s) = T at *
    generalize notesL s (itemsS s) = M at *
    go_wp2_with fail
    go_loopw [8] (fun i wr => ∃ (j n : Nat), i = .int .i64 (j : Int) ∧ wr = w2.drewN n ∧ 1 ≤ j ∧ j ≤ T.length + 1) (fun i _ => T.length + 1 - (intOf i).toNat)
    case atStart => exact ⟨1, 0, rfl, rfl, Nat.le_refl _, by omega⟩
    case round =>
      obtain ⟨j, n, rfl, rfl, hj1, hj2⟩ := hrel
      by_cases hp : j < T.length
      · obtain ⟨g, c', hv, -, -⟩ := HT.out.form (by omega)
        injection hv with h1 h2 h3
        subst h1
        obtain ⟨k, hk⟩ : ∃ k, j = k + 1 := ⟨j - 1, by omega⟩
        obtain ⟨t, ht⟩ : ∃ t, T[k]? = some t := ⟨_, List.getElem?_eq_getElem (by omega)⟩
        obtain ⟨u, hu⟩ : ∃ u, T[j]? = some u := ⟨_, List.getElem?_eq_getElem hp⟩
        obtain ⟨-, -, a2, a3⟩ := tok_at HT.out k t ht
        obtain ⟨-, -, b2, b3⟩ := tok_at HT.out j u hu
        have hr := RT.out k t u ht (by rw [← hk]; exact hu)
        have hw := rs_step j T.length (by omega) HLT.out
        have hv2 := rs_back j k T.length hk (by omega) HLT.out
        have HW := Lib.hid hw
        have i0 : (0 : Int) ≤ (k : Int) := by omega
        have i1 : (k : Int) < (T.length : Int) := by omega
        have i2 : (0 : Int) ≤ (j : Int) := by omega
        have i3 : (j : Int) < (T.length : Int) := by omega
        have q1 : decide ((j : Int) < (T.length : Int)) = true := decide_eq_true i3
        have q2 : decide (j < T.length) = true := decide_eq_true hp
        clear ht hu h2 h3 hw hk
        generalize lineS s t.fr = L1 at *
        generalize colS s t.fr = K1 at *
        generalize lineS s u.fr = L2 at *
        generalize colS s u.fr = K2 at *
        rcases hr with hr | ⟨hr, hr2⟩
        · have d1 : decide (L2 < L1) = false := decide_eq_false (by omega)
          have d2 : (L2 == L1) = false := by rw [beq_eq_false_iff_ne]; omega
          clear hr
          go_wp2_with fail
          go_quiet (fail)
          go_wp2_with fail
          go_roundw
          case rel => exact ⟨j + 1, _, by rw [HW.out], rfl, by omega, by omega⟩
          case measure =>
            rw [HW.out]
            simp [intOf]
            omega
        · subst hr
          have d1 : decide (L1 < L1) = false := decide_eq_false (by omega)
          have d3 : decide (K2 ≤ K1) = false := decide_eq_false (by omega)
          clear hr2
          go_wp2_with fail
          go_quiet (fail)
          go_wp2_with fail
          go_roundw
          case rel => exact ⟨j + 1, _, by rw [HW.out], rfl, by omega, by omega⟩
          case measure =>
            rw [HW.out]
            simp [intOf]
            omega
      · have q1 : decide ((j : Int) < (T.length : Int)) = false := decide_eq_false (by omega)
        have q2 : decide (j < T.length) = false := decide_eq_false hp
        clear C1
        go_wp2_with fail
        clear q1 q2 hp hj1 hj2
        go_loopw [9] (fun i wr => ∃ (k : Nat), i = .int .i64 (k : Int) ∧ Below w2.heap.size w2 wr ∧ k ≤ M.length) (fun i _ => M.length - (intOf i).toNat)
        case atStart => exact ⟨0, rfl, Plc.below_drewN (Below.refl _ _) n, Nat.zero_le _⟩
        case round =>
          obtain ⟨j, rfl, hbw, hk2⟩ := hrel
          have HBW := Lib.hid hbw
          clear hbw
          by_cases hp2 : j < M.length
          · obtain ⟨g2, c', hv, -, -⟩ := HNT.out.form (by omega)
            injection hv with h1 h2 h3
            subst h1
            clear h2 h3
            obtain ⟨n, hn0⟩ : ∃ n, M[j]? = some n := ⟨_, List.getElem?_eq_getElem hp2⟩
            by_cases hj0 : j = 0
            · subst hj0
              obtain ⟨fk, fg, fl, fh⟩ := FN.out 0 n hn0
              obtain ⟨y0, y1, y2, y3, y4⟩ := note_at (HNT.out.below HBW.out (Nat.le_refl _)) 0 n hn0
              have C := Lib.hid (C2.out n.it)
              have z1 : ((((Not.kindN (txt s n.it).data.toList : Nat)) : Int) == 0) = false := by rw [beq_eq_false_iff_ne]; omega
              have z2 : decide (((n.gap : Nat) : Int) < 0) = false := decide_eq_false (by omega)
              have z3 : decide ((T.length : Int) < ((n.gap : Nat) : Int)) = false := decide_eq_false (by omega)
              have z4 : decide (T.length < n.gap) = false := decide_eq_false (by omega)
              have z5 : decide (n.pl < 1) = false := decide_eq_false (by omega)
              have z6 : decide (3 < n.pl) = false := decide_eq_false (by omega)
              have hw : wrap64 ((0 : Int) + 1) = ((1 : Nat) : Int) := by unfold wrap64; omega
              have HW := Lib.hid hw
              have q1 : decide ((0 : Int) < (M.length : Int)) = true := decide_eq_true (by omega)
              have q2 : decide (0 < M.length) = true := decide_eq_true hp2
              have i1 : (0 : Int) < (M.length : Int) := by omega
              have KN : ∀ wx, Below wr.heap.size wr wx → Notes s wx w1.heap.size (.slice (some ⟨g2, 0, none⟩) M.length nc) M := fun wx hb => (HNT.out.below HBW.out (Nat.le_refl _)).below hb (Nat.le_refl _)
              have HKN := Lib.hid KN
              have HN0 := Lib.hid hn0
              clear fk fg fl fh hn0 hw KN
              go_wp2_with (first | (go_at_call 17; refine (C.out _).mono ?_; rintro e w5 ⟨rfl, hb5⟩; obtain ⟨e0, e1, e2, e3, e4⟩ := note_at (HKN.out w5 hb5) 0 n HN0.out; have HB5 := Lib.hid hb5; clear hb5))
              go_quiet (fail)
              go_wp2_with fail
              go_roundw
              case rel => exact ⟨1, by first | rfl | rw [HW.out], Plc.below_drewN (HBW.out.trans (HB5.out.mono HBW.out.size)) _, by omega⟩
              case measure =>
                try rw [HW.out]
                simp [intOf]
                omega
            · obtain ⟨k, hj⟩ : ∃ k, j = k + 1 := ⟨j - 1, by omega⟩
              clear hj0
              obtain ⟨m, hm0⟩ : ∃ m, M[k]? = some m := ⟨_, List.getElem?_eq_getElem (by omega)⟩
              obtain ⟨fk, fg, fl, fh⟩ := FN.out j n hn0
              obtain ⟨y0, y1, y2, y3, y4⟩ := note_at (HNT.out.below HBW.out (Nat.le_refl _)) j n hn0
              have C := Lib.hid (C2.out n.it)
              have z1 : ((((Not.kindN (txt s n.it).data.toList : Nat)) : Int) == 0) = false := by rw [beq_eq_false_iff_ne]; omega
              have z2 : decide (((n.gap : Nat) : Int) < 0) = false := decide_eq_false (by omega)
              have z3 : decide ((T.length : Int) < ((n.gap : Nat) : Int)) = false := decide_eq_false (by omega)
              have z4 : decide (T.length < n.gap) = false := decide_eq_false (by omega)
              have z5 : decide (n.pl < 1) = false := decide_eq_false (by omega)
              have z6 : decide (3 < n.pl) = false := decide_eq_false (by omega)
              have hw := rs_step j M.length (by omega) HLN.out
              have hv2 := rs_back j k M.length hj (by omega) HLN.out
              have HW := Lib.hid hw
              have q1 : decide ((j : Int) < (M.length : Int)) = true := decide_eq_true (by omega)
              have q2 : decide (j < M.length) = true := decide_eq_true hp2
              have q3 : decide ((0 : Int) < (j : Int)) = true := decide_eq_true (by omega)
              have q4 : decide (0 < j) = true := decide_eq_true (by omega)
              have i0 : (0 : Int) ≤ (k : Int) := by omega
              have i1 : (k : Int) < (M.length : Int) := by omega
              have i2 : (0 : Int) ≤ (j : Int) := by omega
              have i3 : (j : Int) < (M.length : Int) := by omega
              have KN : ∀ wx, Below wr.heap.size wr wx → Notes s wx w1.heap.size (.slice (some ⟨g2, 0, none⟩) M.length nc) M := fun wx hb => (HNT.out.below HBW.out (Nat.le_refl _)).below hb (Nat.le_refl _)
              have HKN := Lib.hid KN
              have HN0 := Lib.hid hn0
              have HM0 := Lib.hid hm0
              obtain ⟨hgp, hr⟩ := RN.out k m n hm0 (by rw [← hj]; exact hn0)
              have z7 : decide (((n.gap : Nat) : Int) < ((m.gap : Nat) : Int)) = false := decide_eq_false (by omega)
              have z8 : decide (n.gap < m.gap) = false := decide_eq_false (by omega)
              clear fk fg fl fh hn0 hm0 hw KN hgp hj
              rcases hr with hr | ⟨hr, hr2⟩
              · have d1 : decide (lineS s n.it.fr < lineS s m.it.fr) = false := decide_eq_false (by omega)
                have d2 : (lineS s n.it.fr == lineS s m.it.fr) = false := by rw [beq_eq_false_iff_ne]; omega
                clear hr
                go_wp2_with (first | (go_at_call 17; refine (C.out _).mono ?_; rintro e w5 ⟨rfl, hb5⟩; obtain ⟨e0, e1, e2, e3, e4⟩ := note_at (HKN.out w5 hb5) j n HN0.out; obtain ⟨o0, o1, o2, o3, o4⟩ := note_at (HKN.out w5 hb5) k m HM0.out; have HB5 := Lib.hid hb5; clear hb5))
                go_quiet (fail)
                go_wp2_with fail
                go_roundw
                case rel => exact ⟨j + 1, by rw [HW.out], Plc.below_drewN (HBW.out.trans (HB5.out.mono HBW.out.size)) _, by omega⟩
                case measure =>
                  rw [HW.out]
                  simp [intOf]
                  omega
              · have d1 : decide (lineS s n.it.fr < lineS s m.it.fr) = false := decide_eq_false (by omega)
                have d2 : (lineS s n.it.fr == lineS s m.it.fr) = true := by rw [beq_iff_eq]; exact hr.symm
                have d3 : decide (colS s n.it.fr ≤ colS s m.it.fr) = false := decide_eq_false (by omega)
                clear hr hr2
                go_wp2_with (first | (go_at_call 17; refine (C.out _).mono ?_; rintro e w5 ⟨rfl, hb5⟩; obtain ⟨e0, e1, e2, e3, e4⟩ := note_at (HKN.out w5 hb5) j n HN0.out; obtain ⟨o0, o1, o2, o3, o4⟩ := note_at (HKN.out w5 hb5) k m HM0.out; have HB5 := Lib.hid hb5; clear hb5))
                go_quiet (fail)
                go_wp2_with fail
                go_roundw
                case rel => exact ⟨j + 1, by rw [HW.out], Plc.below_drewN (HBW.out.trans (HB5.out.mono HBW.out.size)) _, by omega⟩
                case measure =>
                  rw [HW.out]
                  simp [intOf]
                  omega
          · have q1 : decide ((j : Int) < (M.length : Int)) = false := decide_eq_false (by omega)
            have q2 : decide (j < M.length) = false := decide_eq_false hp2
            go_wp2_with fail
            go_ret
            exact ⟨rfl, HB2.out.trans (HBW.out.mono HB2.out.size)⟩
  · have b1 : (x != 0) = true := by rw [bne_iff_ne]; exact hx0
    rw [if_neg hx0] at hn
    obtain ⟨na, nc, rfl⟩ := own_len hn
    clear hx hx0 ht hn
    go_wp2_with fail
    go_ret
    exact ⟨rfl, HB2.out⟩
end Go.Proofs.YtkehchajgdepaaaGreatDoor.Lx
