/-
  What the stage's theorem says of rows of bytes: a word that is found is that word by itself and with a blank behind; the parts of a qualified word; two words with a blank between. No program is run here.
-/
import Derived.Test.YtkabgeimcpkpgaaWrdKind
namespace Go.Proofs.Ytkabgeimcpkpgaa.Wrd
open Gly

theorem cat_toList (a b : ByteArray) : (a ++ b).data.toList = a.data.toList ++ b.data.toList := by simp
theorem rest_zero (s : ByteArray) : rest s 0 = s.data.toList := rfl
theorem rest_cat_right (a b : ByteArray) : rest (a ++ b) a.size = b.data.toList := by
  unfold rest
  rw [cat_toList, Lib.size_eq, List.drop_append_of_le_length (Nat.le_refl _), List.drop_of_length_le (Nat.le_refl _), List.nil_append]
theorem cut_toList (s : ByteArray) (n k : Nat) : (s.extract n (n + k)).data.toList = (rest s n).take k := by
  rw [Lib.extract_data, Nat.add_sub_cancel_left]
  rfl
/-- What scanI has found. -/
theorem scanI_found (s : ByteArray) (i : Int) : (scanI s i = (0, 0, 0)) ∨ (∃ (n m p : Nat) (k q : Int), i = (n : Int) ∧ n + m ≤ s.size ∧ 1 ≤ m ∧ k ≠ 0 ∧ scan (rest s n) = (k, m, p) ∧ scanI s i = (k, ((n + m : Nat) : Int), q)) := by
  by_cases h : 0 ≤ i ∧ i ≤ s.size
  · obtain ⟨n, rfl⟩ := Int.eq_ofNat_of_zero_le h.1
    have e : scanI s (n : Int) = lexI n (scan (rest s n)) := by
      unfold scanI
      rw [if_pos h, Int.toNat_natCast]
    rcases scan_cases (rest s n) with ⟨e0, _⟩ | ⟨hx, _⟩
    · left
      rw [e, e0]
      rfl
    · right
      have hb := hx.bd
      have hl := rest_len s n
      refine ⟨n, (scan (rest s n)).2.1, (scan (rest s n)).2.2, (scan (rest s n)).1, (if (scan (rest s n)).2.2 = 0 then 0 else ((n + (scan (rest s n)).2.2 : Nat) : Int)), rfl, by omega, hb.2.1, hb.1, rfl, ?_⟩
      rw [e]
      unfold lexI
      rw [if_neg hb.1]
  · left
    unfold scanI
    rw [if_neg h]
theorem scanI_zero (s : ByteArray) (k : Int) (m p : Nat) (h : scan s.data.toList = (k, m, p)) (hk : k ≠ 0) : ∃ q : Int, scanI s 0 = (k, (m : Int), q) := by
  unfold scanI
  rw [if_pos (by omega), Int.toNat_zero, rest_zero, h]
  unfold lexI
  rw [if_neg hk]
  exact ⟨_, by rw [Nat.zero_add]⟩
theorem kindI_of (s : ByteArray) (k : Int) (m p : Nat) (h : scan s.data.toList = (k, m, p)) (hk : k ≠ 0) (hm : m = s.size) : kindI s = k := by
  unfold kindI
  rw [wholeI_at, rest_zero, h, if_neg (by dsimp only; omega)]
theorem kindI_scan (s : ByteArray) (k : Int) (h : kindI s = k) (hk : k ≠ 0) : ∃ p, scan s.data.toList = (k, s.size, p) := by
  unfold kindI at h
  rw [wholeI_at, rest_zero] at h
  by_cases q : (scan s.data.toList).1 = 0 ∨ (scan s.data.toList).2.1 ≠ s.size
  · rw [if_pos q] at h
    exact absurd h.symm hk
  · rw [if_neg q] at h
    dsimp only at h
    have q2 : (scan s.data.toList).2.1 = s.size := by omega
    exact ⟨(scan s.data.toList).2.2, by rw [← h, ← q2]⟩

theorem alone (s : ByteArray) (n m p : Nat) (k : Int) (h : scan (rest s n) = (k, m, p)) (hk : k ≠ 0) (hn : n + m ≤ s.size) (t : ByteArray) :
    kindI (s.extract n (n + m)) = k ∧ (s.extract n (n + m)).size = m ∧ ∃ q : Int, scanI (s.extract n (n + m) ++ ⟨#[32]⟩ ++ t) 0 = (k, (m : Int), q) := by
  have hl := rest_len s n
  have hz : (s.extract n (n + m)).size = m := by rw [Lib.size_eq, cut_toList, List.length_take]; omega
  have h1 := scan_alone (rest s n) (by rw [h]; exact hk)
  have h2 := scan_blank (rest s n) t.data.toList (by rw [h]; exact hk)
  rw [h] at h1 h2
  dsimp only at h1 h2
  refine ⟨kindI_of _ k m p (by rw [cut_toList]; exact h1) hk hz.symm, hz, scanI_zero _ k m p ?_ hk⟩
  rw [cat_toList, cat_toList, cut_toList, List.append_assoc]
  exact h2
theorem blank (a b : ByteArray) (k l : Int) (ha : kindI a = k) (hb : kindI b = l) (hk : k ≠ 0) (hl : l ≠ 0) :
    (∃ q : Int, scanI (a ++ ⟨#[32]⟩ ++ b) 0 = (k, (a.size : Int), q)) ∧ ∃ q : Int, scanI (a ++ ⟨#[32]⟩ ++ b) ((a.size : Int) + 1) = (l, (a.size : Int) + 1 + (b.size : Int), q) := by
  obtain ⟨p, h1⟩ := kindI_scan a k ha hk
  obtain ⟨r, h2⟩ := kindI_scan b l hb hl
  constructor
  · refine scanI_zero _ k a.size p ?_ hk
    have := scan_blank a.data.toList b.data.toList (by rw [h1]; exact hk)
    rw [h1] at this
    dsimp only at this
    rw [Lib.size_eq, List.take_length, ← Lib.size_eq] at this
    rw [cat_toList, cat_toList, List.append_assoc]
    exact this
  · have hz : (a ++ ⟨#[32]⟩ : ByteArray).size = a.size + 1 := by rw [cat_size]; rfl
    have e : rest (a ++ ⟨#[32]⟩ ++ b) (a.size + 1) = b.data.toList := by rw [← hz]; exact rest_cat_right _ _
    have hz2 : (a ++ ⟨#[32]⟩ ++ b : ByteArray).size = a.size + 1 + b.size := by rw [cat_size, hz]
    unfold scanI
    rw [if_pos (by omega), show ((a.size : Int) + 1).toNat = a.size + 1 from by omega, e, h2]
    unfold lexI
    rw [if_neg hl]
    exact ⟨_, rfl⟩
theorem parts (s : ByteArray) (h : kindI s = 3 ∨ kindI s = 4 ∨ kindI s = 7 ∨ kindI s = 8) :
    ∃ p : Nat, 1 ≤ p ∧ p < s.size ∧ splitI s = (s.extract 0 p, s.extract (p + 1) s.size, 0) ∧ (kindI (s.extract 0 p) = 2 ∨ kindI (s.extract 0 p) = 4) ∧ qual (kindI (s.extract (p + 1) s.size)) = kindI s ∧ kindI (s.extract (p + 1) s.size) ≠ 0 ∧
      s.extract 0 p ++ ⟨#[46]⟩ ++ s.extract (p + 1) s.size = s := by
  obtain ⟨p, e, p1, p2, s1, s2, s3⟩ := wholeI_point s h
  have hl := rest_len s 0
  have hw : (scan (rest s 0)).1 = 3 ∨ (scan (rest s 0)).1 = 4 ∨ (scan (rest s 0)).1 = 7 ∨ (scan (rest s 0)).1 = 8 := by rw [s1]; exact h
  obtain ⟨k, k2, p', _, _, hk, hq, h46, hn, hk2, hk20⟩ := scan_parts (rest s 0) (by omega) hw
  rw [s3] at hq h46 hn
  rw [s1] at hk2
  have z1 : (s.extract 0 p).data.toList = (rest s 0).take p := by
    have := cut_toList s 0 p
    rw [Nat.zero_add] at this
    exact this
  have z2 : (s.extract (p + 1) s.size).data.toList = (rest s 0).drop (p + 1) := by
    rw [Lib.extract_to_end]
    rfl
  have y1 : (s.extract 0 p).size = p := by rw [Lib.size_eq, z1, List.length_take]; omega
  have y2 : (s.extract (p + 1) s.size).size = s.size - (p + 1) := by rw [Lib.size_eq, z2, List.length_drop]; omega
  have kn : kindI (s.extract (p + 1) s.size) = k2 := kindI_of _ k2 _ 0 (by rw [z2]; exact hn) hk20 (by omega)
  have kq : kindI (s.extract 0 p) = k := kindI_of _ k _ p' (by rw [z1]; exact hq) (by omega) y1.symm
  refine ⟨p, p1, p2, ?_, by rw [kq]; exact hk, by rw [kn]; exact hk2, by rw [kn]; exact hk20, ?_⟩
  · unfold splitI
    unfold kindI at h
    rw [if_pos h, e, Int.toNat_natCast]
  · apply ByteArray.ext
    apply Array.toList_inj.1
    rw [cat_toList, cat_toList, z1, z2, rest_zero]
    rw [rest_zero] at h46
    have hlt : p < s.data.toList.length := by rw [← Lib.size_eq]; exact p2
    have : s.data.toList.drop p = 46 :: s.data.toList.drop (p + 1) := by
      rw [List.drop_eq_getElem_cons hlt]
      congr 1
      rw [List.getD_eq_getElem?_getD, List.getElem?_eq_getElem hlt] at h46
      exact h46
    rw [List.append_assoc, show (⟨#[46]⟩ : ByteArray).data.toList ++ s.data.toList.drop (p + 1) = s.data.toList.drop p from this.symm, List.take_append_drop]
end Go.Proofs.Ytkabgeimcpkpgaa.Wrd
