/-
  The walk of the statement GlyphPieces: a text gone through rune by rune falls into pieces that are the text. Condition: the string has at most 2^47 bytes, as every row's input has.
-/
import Derived.Test.YtjfhdapflpmjgaaGlyRun
namespace Go.Proofs.Ytjfhdapflpmjgaa.Gly
open Go.RowKit
set_option linter.unusedSimpArgs false

theorem decodeN_piece (n b0 b1 b2 b3 c1 c2 c3 : Nat) (e1 : 1 < (Lib.decodeN n b0 b1 b2 b3).2 → c1 = b1) (e2 : 2 < (Lib.decodeN n b0 b1 b2 b3).2 → c2 = b2) (e3 : 3 < (Lib.decodeN n b0 b1 b2 b3).2 → c3 = b3) :
    Lib.decodeN (Lib.decodeN n b0 b1 b2 b3).2 b0 c1 c2 c3 = Lib.decodeN n b0 b1 b2 b3 := by
  rcases Lib.decodeN_shape n b0 b1 b2 b3 with ⟨c, e⟩ | ⟨p1, p2, p3, cv, e⟩ | ⟨p1, p2, p3, p4, cv, cs, e⟩ | ⟨p1, p2, p3, p4, p5, cv, cw, e⟩ | e
  · rw [e, Lib.decodeN_ascii _ _ _ _ _ c]
  · rw [e] at e1 e2 e3 ⊢
    obtain rfl := e1 (by dsimp only; omega)
    unfold Lib.decodeN
    repeat' split
    all_goals first | (exfalso; omega) | rfl
  · rw [e] at e1 e2 e3 ⊢
    obtain rfl := e1 (by dsimp only; omega)
    obtain rfl := e2 (by dsimp only; omega)
    unfold Lib.decodeN
    repeat' split
    all_goals first | (exfalso; omega) | rfl
  · rw [e] at e1 e2 e3 ⊢
    obtain rfl := e1 (by dsimp only; omega)
    obtain rfl := e2 (by dsimp only; omega)
    obtain rfl := e3 (by dsimp only; omega)
    unfold Lib.decodeN
    repeat' split
    all_goals first | (exfalso; omega) | rfl
  · by_cases h : b0 < 128
    · rw [e, Lib.decodeN_ascii _ _ _ _ _ h, ← e, Lib.decodeN_ascii _ _ _ _ _ h]
    · rw [e]
      exact Lib.decodeN_alone _ _ _ _ _ (by omega) (Or.inl (Nat.le_refl _))
/-- A piece that holds just one rune's bytes holds that rune. -/
theorem decode_piece (s : ByteArray) (n : Nat) (h : n < s.size) : Utf8.decode (s.extract n (n + (Utf8.decode s n).2)) 0 = Utf8.decode s n := by
  have hf := width_fits s n h
  have hl : (s.extract n (n + (Utf8.decode s n).2)).data.toList = (s.data.toList.drop n).take (Utf8.decode s n).2 := by
    rw [Lib.extract_data]
    congr 1
    omega
  rw [Lib.decode_N (s.extract n (n + (Utf8.decode s n).2)) 0, hl]
  have hlen : ((s.data.toList.drop n).take (Utf8.decode s n).2).length = (Utf8.decode s n).2 := by
    rw [List.length_take, List.length_drop, ← Lib.size_eq]
    omega
  rw [hlen, Nat.sub_zero, Nat.zero_add, Nat.zero_add, Nat.zero_add]
  have hw := width_ge s n
  have g0 : ((s.data.toList.drop n).take (Utf8.decode s n).2).getD 0 0 = s.data.toList.getD n 0 := by
    rw [Lib.getD_takeU _ _ _ (by omega), Lib.getD_dropU, Nat.add_zero]
  rw [g0]
  have hd := Lib.decode_N s n
  have key := decodeN_piece (s.data.toList.length - n) (s.data.toList.getD n 0).toNat (s.data.toList.getD (n + 1) 0).toNat (s.data.toList.getD (n + 2) 0).toNat (s.data.toList.getD (n + 3) 0).toNat
    (((s.data.toList.drop n).take (Utf8.decode s n).2).getD 1 0).toNat (((s.data.toList.drop n).take (Utf8.decode s n).2).getD 2 0).toNat (((s.data.toList.drop n).take (Utf8.decode s n).2).getD 3 0).toNat
  rw [← hd] at key
  exact key (fun q => by rw [Lib.getD_takeU _ _ _ q, Lib.getD_dropU]) (fun q => by rw [Lib.getD_takeU _ _ _ q, Lib.getD_dropU]) (fun q => by rw [Lib.getD_takeU _ _ _ q, Lib.getD_dropU])

theorem bytes_ext {a b : ByteArray} (h : a.data.toList = b.data.toList) : a = b := by
  cases a; cases b; simp at h; subst h; rfl
theorem cat_data (a b : ByteArray) : (a ++ b).data.toList = a.data.toList ++ b.data.toList := by simp
/-- The head of a string up to n, and the piece behind it, are the head up to the piece's end. -/
theorem cat_head (s : ByteArray) (n k : Nat) (_h : n + k ≤ s.size) : s.extract 0 n ++ s.extract n (n + k) = s.extract 0 (n + k) := by
  apply bytes_ext
  rw [cat_data, Lib.extract_data, Lib.extract_data, Lib.extract_data, List.drop_zero, Nat.sub_zero, Nat.sub_zero, Nat.add_sub_cancel_left, List.take_add]
theorem head_all (s : ByteArray) : s.extract 0 s.size = s := by
  apply bytes_ext
  rw [Lib.extract_data, List.drop_zero, Nat.sub_zero, List.take_of_length_le (by rw [← Lib.size_eq]; exact Nat.le_refl _)]

theorem piece_size (s : ByteArray) (a b : Nat) (h : b ≤ s.size) : (s.extract a b).size = b - a := by
  rw [Lib.size_eq, Lib.extract_data, List.length_take, List.length_drop, ← Lib.size_eq]
  omega
theorem runeAt_piece (s : ByteArray) (n : Nat) (h : n < s.size) : runeAt (s.extract n (n + (Utf8.decode s n).2)) 0 = ((((Utf8.decode s n).1 : Nat) : Int), (((Utf8.decode s n).2 : Nat) : Int)) := by
  have hw := width_ge s n
  have hx := width_fits s n h
  have := runeAt_in (s.extract n (n + (Utf8.decode s n).2)) 0 (by rw [piece_size _ _ _ hx]; omega)
  rw [decode_piece s n h] at this
  exact this

theorem pieces_walk (a0 : ByteArray) (w0 : a0.size ≤ 140737488351232) (w : World) :
    Calls Try.prog 7 #[.string a0] w fun e w' => e = .returned (.bool true) ∧ Below w.heap.size w w' := by
  go_enter Try.func7, Try.ntmps7
  go_wp2_with fail
  refine (awake_any _).mono ?_
  rintro e w1 ⟨rfl, hb1⟩
  have HB1 := Lib.hid hb1
  clear hb1
  go_wp2_with fail
  go_loopw [4, 5] (fun v i wr => ∃ n : Nat, n ≤ a0.size ∧ i = .int .i64 (n : Int) ∧ v = .string (a0.extract 0 n) ∧ Below w.heap.size w wr) (fun _ i _ => a0.size - (intOf i).toNat)
  case atStart => exact ⟨0, Nat.zero_le _, rfl, by congr 1; apply bytes_ext; rw [Lib.extract_data]; rfl, HB1.out⟩
  case round =>
    obtain ⟨n, hn, rfl, rfl, hbw⟩ := hrel
    have HB := Lib.hid hbw
    clear hbw
    have hM : a0.size ≤ maxLen := by unfold maxLen; omega
    have HM := Lib.hid hM
    clear hM
    by_cases hp : n < a0.size
    · have hw := width_ge a0 n
      have hx := width_fits a0 n hp
      have h4 := width_four a0 n
      have hr : Hid (runeAt a0 (n : Int) = ((((Utf8.decode a0 n).1 : Nat) : Int), (((Utf8.decode a0 n).2 : Nat) : Int))) := runeAt_in a0 n hp
      go_wp2_with fail
      refine (next_any a0 n HM.out _).mono ?_
      rintro e w2 ⟨rfl, hb2⟩
      have HB2 := Lib.hid hb2
      clear hb2
      rw [hr.out]
      have z1 := piece_size a0 n (n + (Utf8.decode a0 n).2) hx
      have z2 := piece_size a0 0 n hn
      have y1 : (a0.extract n (n + (Utf8.decode a0 n).2)).size ≤ a0.size := by omega
      have y2 : (a0.extract 0 n).size ≤ a0.size := by omega
      have hr2 : Hid (runeAt (a0.extract n (n + (Utf8.decode a0 n).2)) 0 = ((((Utf8.decode a0 n).1 : Nat) : Int), (((Utf8.decode a0 n).2 : Nat) : Int))) := runeAt_piece a0 n hp
      have hcat : Hid (a0.extract 0 n ++ a0.extract n (n + (Utf8.decode a0 n).2) = a0.extract 0 (n + (Utf8.decode a0 n).2)) := cat_head a0 n _ hx
      clear z1 z2
      go_wp2_with fail
      refine (next_any _ 0 (by have := HM.out; omega) _).mono ?_
      rintro e w3 ⟨rfl, hb3⟩
      have HB3 := Lib.hid hb3
      clear hb3
      rw [hr2.out]
      go_wp2_with fail
      go_roundw
      case rel => exact ⟨n + (Utf8.decode a0 n).2, hx, by go_num, by rw [← hcat.out], HB.out.trans ((HB2.out.mono HB.out.size).trans (HB3.out.mono (Nat.le_trans HB.out.size HB2.out.size)))⟩
      case measure => simp [intOf]; omega
    · obtain rfl : n = a0.size := by omega
      go_wp2_with fail
      go_ret
      exact ⟨by rw [head_all]; simp, HB.out⟩
end Go.Proofs.Ytjfhdapflpmjgaa.Gly
