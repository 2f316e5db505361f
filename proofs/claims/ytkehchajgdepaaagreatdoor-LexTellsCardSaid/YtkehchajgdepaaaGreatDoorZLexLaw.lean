/-
  The walk of the law LexTells. Conditions: the string has at most 2^47 - 4096 bytes; the program's list of names stands.
-/
import Derived.Test.YtkehchajgdepaaaGreatDoorZLexB
import Derived.Test.YtkehchajgdepaaaGreatDoorZLexEq
import Derived.Test.YtkehchajgdepaaaGreatDoorZLexRex
namespace Go.Proofs.YtkehchajgdepaaaGreatDoor.Lx
open Go.RowKit Gly
set_option linter.unusedSimpArgs false
set_option linter.unusedVariables false

set_option maxRecDepth 1000000 in
/-- The document's own Lex at a text that is refused for its size or its runes. -/
theorem reflex_bad (s : ByteArray) (hs : s.size ≤ 1125899906842624) (h0 : runesE s ≠ 0) (w : World) : Calls Tryz.prog 10 #[.string s] w (LexOut s w) := by
  have C0 := Lib.hid (fun W => refrunes_any s hs W)
  have HE : Hid (errS s = runesE s ∧ posS s = runesN s) := by
    unfold Hid errS posS
    rw [if_pos h0, if_pos h0]
    exact ⟨rfl, rfl⟩
  have HZ := Lib.hid h0
  have hb : (runesE s != 0) = true := by rw [bne_iff_ne]; exact h0
  clear h0
  generalize runesE s = re at *
  generalize runesN s = rn0 at *
  go_enter Tryz.func10, Tryz.ntmps10
  go_wp2_with fail
  refine (C0.out _).mono ?_
  rintro e w1 ⟨rfl, rfl⟩
  go_wp2_with fail
  go_returns
  have hne : ¬ errS s = 0 := by rw [HE.out.1]; exact HZ.out
  have hi : itemsS s = [] := by unfold itemsS; rw [if_neg hne]
  exact ⟨_, _, by rw [HE.out.1, HE.out.2], by rw [hi]; exact Toks.nil _ _ _, by rw [if_neg hne]; exact Notes.nil _ _ _, (Below.refl _ _).alloc (Nat.le_refl _) _, fun b h => by simp [Value.ownBlock] at h⟩
/-- How many items a text has. -/
theorem items_bd (s : ByteArray) : (itemsS s).length ≤ 16777216 := by
  by_cases h : errS s = 0
  · obtain ⟨h1, h2, h3⟩ := err_ok s h
    obtain ⟨j, hj⟩ := at_lexS s
    have := hj.count
    have := hj.le
    have := (runes_ok s h1).2
    rw [h3]
    omega
  · unfold itemsS
    rw [if_neg h]
    exact Nat.zero_le _
theorem toks_bd (s : ByteArray) : (toksL (itemsS s)).length ≤ 16777216 := Nat.le_trans (List.length_filter_le _ _) (items_bd s)
theorem notes_bd (s : ByteArray) : (if errS s = 0 then notesL s (itemsS s) else []).length ≤ 16777216 := by
  split
  · have h := (notes_told s (itemsS s)).its
    have := congrArg List.length h
    rw [List.length_map] at this
    unfold notesL
    rw [this]
    exact Nat.le_trans (List.length_filter_le _ _) (items_bd s)
  · exact Nat.zero_le _
set_option maxHeartbeats 4000000 in
theorem tells_walk (s : ByteArray) (hs : s.size ≤ 140737488351232) (w : World) (hN : Qt.Nam w) :
    Calls Tryz.prog 3 #[.string s] w fun e w' => e = .returned (.bool true) ∧ Below w.heap.size w w' := by
  have C1 := Lib.hid (fun W hN => lex_any s (by omega) W hN)
  have HTL := Lib.hid (toks_bd s)
  have HNL := Lib.hid (notes_bd s)
  have HN := Lib.hid hN
  clear hN
  by_cases h1 : 8000 < s.size
  · have b1 : decide ((8000 : Int) < (s.size : Int)) = true := decide_eq_true (by omega)
    by_cases h2 : s.size ≤ 16777216
    · have b2 : decide ((s.size : Int) ≤ 16777216) = true := decide_eq_true (by omega)
      clear C1 HTL HNL
      go_enter Tryz.func3, Tryz.ntmps3
      go_wp2_with fail
      refine (awake_any _ HN.out).mono ?_
      rintro e w1 ⟨rfl, hb⟩
      go_wp2_with fail
      go_ret
      exact ⟨rfl, hb⟩
    · have b2 : decide ((s.size : Int) ≤ 16777216) = false := decide_eq_false (by omega)
      have C2 := Lib.hid (fun W => reflex_bad s (by omega) (by unfold runesE; rw [if_pos (by omega)]; decide) W)
      go_enter Tryz.func3, Tryz.ntmps3
      go_wp2_with fail
      refine (C1.out _ HN.out).mono ?_
      rintro e w1 ⟨vt, vn, rfl, ht, hn, hb, -⟩
      have HT1 := Lib.hid ht
      have HS1 := Lib.hid hn
      have HB1 := Lib.hid hb
      clear ht hn hb
      go_wp2_with fail
      refine (C2.out _).mono ?_
      rintro e w2 ⟨vt2, vn2, rfl, ht, hn, hb, -⟩
      have HT2 := Lib.hid ht
      have HS2 := Lib.hid hn
      have HB2 := Lib.hid hb
      have HT12 := Lib.hid (HT1.out.below hb (Nat.le_refl _))
      have HS12 := Lib.hid (HS1.out.below hb (Nat.le_refl _))
      clear ht hn hb
      obtain ⟨ka, kk, kc, hv1⟩ := own_slice HT2.out
      obtain ⟨la, lk, lc, hv2⟩ := own_slice HS2.out
      subst hv1 hv2
      go_upto_region 5 with fail
      obtain ⟨W3, hW3⟩ : ∃ W3, W3 = w2.alloc (.cells #[.slice ka kk kc, .slice la lk lc, .int .i64 ((posS s : Nat) : Int), .int .i64 (errS s)] 29) := ⟨_, rfl⟩
      rw [← hW3]
      have hb3 : Below w2.heap.size w2 W3 := by rw [hW3]; exact (Below.refl _ _).alloc (Nat.le_refl _) _
      have HBK : Hid (Lxd W3 w2.heap.size (.slice ka kk kc) (.slice la lk lc) (.int .i64 ((posS s : Nat) : Int)) (.int .i64 (errS s))) := by rw [hW3]; exact heap_alloc_new w2 _
      have HT13 := Lib.hid (HT12.out.below hb3 (Nat.le_refl _))
      have HS13 := Lib.hid (HS12.out.below hb3 (Nat.le_refl _))
      have HT23 := Lib.hid (HT2.out.below hb3 (Nat.le_refl _))
      have HS23 := Lib.hid (HS2.out.below hb3 (Nat.le_refl _))
      have HB3 := Lib.hid ((HB1.out.trans (HB2.out.mono HB1.out.size)).trans (hb3.mono (Nat.le_trans HB1.out.size HB2.out.size)))
      have HN3 := Lib.hid (HN.out.below HB3.out (Nat.le_refl _))
      clear hW3 hb3 HT12 HS12 HT1 HS1 HT2 HS2
      generalize w2.heap.size = nb at HBK ⊢
      go_wp2_with (first
        | (go_at_call 8; refine (awake_any _ HN3.out).mono ?_; rintro e w4 ⟨rfl, hb4⟩; have HB4 := Lib.hid hb4; have HBK4 : Hid (Lxd w4 nb _ _ _ _) := (hb4.block _ (lt_of_block HBK.out)).trans HBK.out; have a0 := HBK4.out.cells.1; clear hb4)
        | (go_at_call 11; refine (sameall_any s vt (.slice ka kk kc) _ _ _ _ (HT13.out.below HB4.out (Nat.le_refl _)) (HT23.out.below HB4.out (Nat.le_refl _)) (by have := HTL.out; omega)).mono ?_; rintro e w5 ⟨rfl, hb5⟩; have HB5 := Lib.hid hb5; have HBK5 : Hid (Lxd w5 nb _ _ _ _) := (hb5.block _ (lt_of_block HBK4.out)).trans HBK4.out; have a1 := HBK5.out.cells.2.1; clear hb5)
        | (go_at_call 12; refine (samenotes_any s vn (.slice la lk lc) _ _ _ _ ((HS13.out.below HB4.out (Nat.le_refl _)).below HB5.out (Nat.le_refl _)) ((HS23.out.below HB4.out (Nat.le_refl _)).below HB5.out (Nat.le_refl _)) (by have := HNL.out; omega)).mono ?_; rintro e w6 ⟨rfl, hb6⟩; have HB6 := Lib.hid hb6; have HBK6 : Hid (Lxd w6 nb _ _ _ _) := (hb6.block _ (lt_of_block HBK5.out)).trans HBK5.out; have a2 := HBK6.out.cells.2.2.1; have a3 := HBK6.out.cells.2.2.2; clear hb6))
      go_ret
      exact ⟨rfl, ((HB3.out.trans (HB4.out.mono HB3.out.size)).trans (HB5.out.mono (Nat.le_trans HB3.out.size HB4.out.size))).trans (HB6.out.mono (Nat.le_trans HB3.out.size (Nat.le_trans HB4.out.size HB5.out.size)))⟩
  · have b1 : decide ((8000 : Int) < (s.size : Int)) = false := decide_eq_false (by omega)
    have C2 := Lib.hid (fun W => reflex_any s (by omega) W)
    go_enter Tryz.func3, Tryz.ntmps3
    go_wp2_with fail
    refine (C1.out _ HN.out).mono ?_
    rintro e w1 ⟨vt, vn, rfl, ht, hn, hb, -⟩
    have HT1 := Lib.hid ht
    have HS1 := Lib.hid hn
    have HB1 := Lib.hid hb
    clear ht hn hb
    go_wp2_with fail
    refine (C2.out _).mono ?_
    rintro e w2 ⟨vt2, vn2, rfl, ht, hn, hb, -⟩
    have HT2 := Lib.hid ht
    have HS2 := Lib.hid hn
    have HB2 := Lib.hid hb
    have HT12 := Lib.hid (HT1.out.below hb (Nat.le_refl _))
    have HS12 := Lib.hid (HS1.out.below hb (Nat.le_refl _))
    clear ht hn hb
    obtain ⟨ka, kk, kc, hv1⟩ := own_slice HT2.out
    obtain ⟨la, lk, lc, hv2⟩ := own_slice HS2.out
    subst hv1 hv2
    go_upto_region 5 with fail
    obtain ⟨W3, hW3⟩ : ∃ W3, W3 = w2.alloc (.cells #[.slice ka kk kc, .slice la lk lc, .int .i64 ((posS s : Nat) : Int), .int .i64 (errS s)] 29) := ⟨_, rfl⟩
    rw [← hW3]
    have hb3 : Below w2.heap.size w2 W3 := by rw [hW3]; exact (Below.refl _ _).alloc (Nat.le_refl _) _
    have HBK : Hid (Lxd W3 w2.heap.size (.slice ka kk kc) (.slice la lk lc) (.int .i64 ((posS s : Nat) : Int)) (.int .i64 (errS s))) := by rw [hW3]; exact heap_alloc_new w2 _
    have HT13 := Lib.hid (HT12.out.below hb3 (Nat.le_refl _))
    have HS13 := Lib.hid (HS12.out.below hb3 (Nat.le_refl _))
    have HT23 := Lib.hid (HT2.out.below hb3 (Nat.le_refl _))
    have HS23 := Lib.hid (HS2.out.below hb3 (Nat.le_refl _))
    have HB3 := Lib.hid ((HB1.out.trans (HB2.out.mono HB1.out.size)).trans (hb3.mono (Nat.le_trans HB1.out.size HB2.out.size)))
    have HN3 := Lib.hid (HN.out.below HB3.out (Nat.le_refl _))
    clear hW3 hb3 HT12 HS12 HT1 HS1 HT2 HS2
    generalize w2.heap.size = nb at HBK ⊢
    go_wp2_with (first
      | (go_at_call 8; refine (awake_any _ HN3.out).mono ?_; rintro e w4 ⟨rfl, hb4⟩; have HB4 := Lib.hid hb4; have HBK4 : Hid (Lxd w4 nb _ _ _ _) := (hb4.block _ (lt_of_block HBK.out)).trans HBK.out; have a0 := HBK4.out.cells.1; clear hb4)
      | (go_at_call 11; refine (sameall_any s vt (.slice ka kk kc) _ _ _ _ (HT13.out.below HB4.out (Nat.le_refl _)) (HT23.out.below HB4.out (Nat.le_refl _)) (by have := HTL.out; omega)).mono ?_; rintro e w5 ⟨rfl, hb5⟩; have HB5 := Lib.hid hb5; have HBK5 : Hid (Lxd w5 nb _ _ _ _) := (hb5.block _ (lt_of_block HBK4.out)).trans HBK4.out; have a1 := HBK5.out.cells.2.1; clear hb5)
      | (go_at_call 12; refine (samenotes_any s vn (.slice la lk lc) _ _ _ _ ((HS13.out.below HB4.out (Nat.le_refl _)).below HB5.out (Nat.le_refl _)) ((HS23.out.below HB4.out (Nat.le_refl _)).below HB5.out (Nat.le_refl _)) (by have := HNL.out; omega)).mono ?_; rintro e w6 ⟨rfl, hb6⟩; have HB6 := Lib.hid hb6; have HBK6 : Hid (Lxd w6 nb _ _ _ _) := (hb6.block _ (lt_of_block HBK5.out)).trans HBK5.out; have a2 := HBK6.out.cells.2.2.1; have a3 := HBK6.out.cells.2.2.2; clear hb6))
    go_ret
    exact ⟨rfl, ((HB3.out.trans (HB4.out.mono HB3.out.size)).trans (HB5.out.mono (Nat.le_trans HB3.out.size HB4.out.size))).trans (HB6.out.mono (Nat.le_trans HB3.out.size (Nat.le_trans HB4.out.size HB5.out.size)))⟩
end Go.Proofs.YtkehchajgdepaaaGreatDoor.Lx
