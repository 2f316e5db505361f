/-
  The contracts of the library's functions at this program (strings.Builder, HasPrefix, Trim, TrimLeft, ReplaceAll at one byte, Repeat), each the library's own theorem, the numbers put in; and where a row of symbols ends, by glyph.Run and by the document's own Run. Conditions: what a builder holds and gets is below 2^47 bytes; a line is below 2^32 bytes; other strings at most 2^50 bytes.
-/
import Derived.Test.YtkehchajgdepaaaGreatDoorShf
import Derived.Test.YtkehchajgdepaaaGreatDoorZMthB
import Derived.Test.YtkehchajgdepaaaGreatDoorZGlyNx
import Derived.Test.YtkehchajgdepaaaGreatDoorZRefA
import Derived.Test.YtkehchajgdepaaaGreatDoorZPlcA
import Derived.Lib.SmallJoins
import Derived.Lib.SplitLaws
import Derived.Deep.Draws
import Derived.Lib.Hide
import Derived.Lib.Strings
import Derived.Lib.Replace
import Derived.Lib.ReplaceLaws
import Derived.Handy
import Derived.LoopTactic
import Derived.Laws.RangeAny
namespace Go.Proofs
open Go.Shelf
end Go.Proofs
namespace Go.Proofs.YtkehchajgdepaaaGreatDoor.Not
open Go.RowKit Gly
open Wrd (rn wd run run_le run_stop run_step wd_pos wd_le)
set_option linter.unusedSimpArgs false
set_option linter.unusedVariables false

/-! ### Builders -/

theorem builder_kept {T e : TypeId} {B b : Nat} {bs : List Value} {w w' : World} (h : Lib.IsBuilderF T e B b bs w)
    (hk : ∀ (k : Nat) (c : Array Value) (t : TypeId) (fz : Nat × Nat), w.heap[k]? = some (Obj.cells c t fz) → (t = T ∨ t = e) → w'.heap[k]? = some (Obj.cells c t fz)) : Lib.IsBuilderF T e B b bs w' := by
  have key : ∀ p, Lib.BuilderAtF T e B b p bs w → Lib.BuilderAtF T e B b p bs w' := by
    rintro p ⟨hB, v, hb, hown, hne⟩
    refine ⟨hB, v, hk _ _ _ _ hb (.inl rfl), ⟨hown.1, ?_⟩, hne⟩
    rcases hown.2 with hn | ⟨g, cap, cur, fz, rfl, h1, h2, h3⟩
    · exact .inl hn
    · exact .inr ⟨g, cap, cur, fz, rfl, h1, hk _ _ _ _ h2 (.inr rfl), h3⟩
  exact h.elim (fun x => .inl (key _ x)) (fun x => .inr (key _ x))
theorem builder_below {T e : TypeId} {B b : Nat} {bs : List Value} {w w' : World} (h : Lib.IsBuilderF T e B b bs w) (hb : Below w.heap.size w w') : Lib.IsBuilderF T e B b bs w' :=
  builder_kept h fun k _ _ _ hk _ => (hb.block k (lt_of_block hk)).trans hk
/-- What a builder holds. -/
def Bld (B b : Nat) (bs : List UInt8) (w : World) : Prop := Lib.IsBuilderF 65 5 B b (Lib.byteCells bs) w
theorem Bld.below {B b : Nat} {l : List UInt8} {w w' : World} (h : Bld B b l w) (hb : Below w.heap.size w w') : Bld B b l w' := builder_below h hb

/-! ### The rest of the library -/

theorem prefix_any (s p : ByteArray) (w : World) :
    Calls Tryz.prog 30 #[.string s, .string p] w fun e w' => e = .returned (.bool (Lib.hasPrefix s.data.toList p.data.toList)) ∧ w = w' := by
  refine (Any.strings_HasPrefix Tryz.lays99 s p w).mono ?_
  rintro e w' ⟨rfl, rfl⟩
  exact ⟨rfl, rfl⟩
theorem hasPrefix_opn (L : List UInt8) : Lib.hasPrefix L [123, 45] = opn L := by
  match L with
  | [] => rfl
  | [b] => simp [Lib.hasPrefix, opn, List.isPrefixOf]
  | b :: c :: r =>
    simp only [Lib.hasPrefix, opn, List.isPrefixOf, Bool.and_true]
    rw [show ((123 : UInt8) == b) = (b == 123) from Bool.beq_comm, show ((45 : UInt8) == c) = (c == 45) from Bool.beq_comm]
theorem opn_any (s : ByteArray) (w : World) :
    Calls Tryz.prog 30 #[.string s, .string ⟨#[123, 45]⟩] w fun e w' => e = .returned (.bool (opn s.data.toList)) ∧ w = w' := by
  have h := prefix_any s ⟨#[123, 45]⟩ w
  rw [show (⟨#[123, 45]⟩ : ByteArray).data.toList = [123, 45] from rfl, hasPrefix_opn] at h
  exact h
theorem trimDash_any (s : ByteArray) (hs : s.size ≤ 1125899906842624) (w : World) :
    Calls Tryz.prog 91 #[.string s, .string ⟨#[45]⟩] w fun e w' => e = .returned (.string ⟨(Lib.trimB s.data.toList 45).toArray⟩) ∧ Below w.heap.size w w' := by
  refine (Any.strings_Trim_one Tryz.lays160 s 45 (by decide) w (by omega)).mono ?_
  rintro e w' ⟨rfl, h⟩
  refine ⟨rfl, ?_⟩
  rcases h with rfl | rfl
  · exact Below.refl _ _
  · exact ⟨rfl, rfl, rfl, Nat.le_refl _, fun _ _ => rfl⟩
theorem drop_nil (p : UInt8 → Bool) : ∀ (l : List UInt8), l.dropWhile p = [] ↔ ∀ b ∈ l, p b = true
  | [] => ⟨fun _ _ h => (nomatch h), fun _ => rfl⟩
  | c :: l => by
    rw [List.dropWhile_cons]
    split
    · rename_i h
      rw [drop_nil p l]
      constructor
      · intro q b hb
        rcases List.mem_cons.1 hb with rfl | hb
        · exact h
        · exact q b hb
      · exact fun q b hb => q b (List.mem_cons_of_mem _ hb)
    · rename_i h
      exact ⟨fun q => (nomatch q), fun q => absurd (q c (List.mem_cons_self ..)) h⟩
theorem take_all (p : UInt8 → Bool) : ∀ (l : List UInt8), ∀ b ∈ l.takeWhile p, p b = true
  | [], _, h => by simp at h
  | c :: l, b, h => by
    rw [List.takeWhile_cons] at h
    split at h
    · rename_i hc
      rcases List.mem_cons.1 h with rfl | h
      · exact hc
      · exact take_all p l b h
    · exact (nomatch h)
theorem trimB_dash (l : List UInt8) : Lib.trimB l 45 = [] ↔ ∀ b ∈ l, b = 45 := by
  unfold Lib.trimB Lib.trimLeftB Lib.trimRightB
  rw [drop_nil]
  constructor
  · intro h b hb
    by_cases hr : b ∈ (l.reverse.dropWhile (· == 45)).reverse
    · exact beq_iff_eq.1 (h b hr)
    · have hb2 : b ∈ l.reverse := List.mem_reverse.2 hb
      rw [← List.takeWhile_append_dropWhile (p := (· == 45)) (l := l.reverse)] at hb2
      rcases List.mem_append.1 hb2 with h2 | h2
      · exact beq_iff_eq.1 (take_all _ _ b h2)
      · exact absurd (List.mem_reverse.2 h2) hr
  · intro h b hb
    exact beq_iff_eq.2 (h b (List.mem_reverse.1 ((List.dropWhile_sublist _).mem (List.mem_reverse.1 hb))))
theorem replaceK_one (c : UInt8) (hc : c ≠ 32) : ∀ (L : List UInt8) (k : Nat), Lib.count L [c] ≤ k → Lib.replaceK [c] [32] k L = L.map (fun b => if b = c then 32 else b)
  | [], k, _ => by
    cases k with
    | zero => rfl
    | succ k => simp [Lib.replaceK, Lib.index]
  | b :: l, k, h => by
    by_cases hb : b = c
    · subst hb
      rw [Lib.count_cons_eq] at h
      obtain ⟨k, rfl⟩ : ∃ j, k = j + 1 := ⟨k - 1, by omega⟩
      have hi : Lib.index (b :: l) [b] = ((0 : Nat) : Int) := by simp [Lib.index]
      rw [Lib.replaceK_hit _ _ k _ 0 hi, List.map_cons, if_pos rfl, ← replaceK_one b hc l k (by omega)]
      rfl
    · rw [Lib.count_cons_ne b c l hb] at h
      rw [List.map_cons, if_neg hb, ← replaceK_one c hc l k h]
      cases k with
      | zero => rfl
      | succ k =>
        have hx : Lib.index (b :: l) [c] = if Lib.index l [c] == -1 then -1 else Lib.index l [c] + 1 := by
          rw [Lib.index, if_neg]
          simp only [List.isPrefixOf, Bool.and_true]
          intro e
          exact hb (beq_iff_eq.1 e).symm
        by_cases hn : Lib.index l [c] = -1
        · rw [Lib.replaceK, Lib.replaceK, hx, hn]
          rfl
        · have hge := Lib.index_ge l [c]
          obtain ⟨i, hi⟩ := Int.eq_ofNat_of_zero_le (a := Lib.index l [c]) (by omega)
          have hx2 : Lib.index (b :: l) [c] = ((i + 1 : Nat) : Int) := by
            rw [hx, if_neg (by simpa using hn), hi]
            rfl
          rw [Lib.replaceK_hit _ _ k _ _ hi, Lib.replaceK_hit _ _ k _ _ hx2]
          rw [List.take_succ_cons, Nat.add_right_comm, List.drop_succ_cons]
          rfl
theorem replaceAll_one (c : UInt8) (hc : c ≠ 32) (L : List UInt8) : Lib.replaceAll L [c] [32] = L.map (fun b => if b = c then 32 else b) := by
  unfold Lib.replaceAll Lib.replace
  rw [if_neg (by simpa using hc)]
  apply replaceK_one c hc
  unfold Lib.replaceNum
  rw [if_pos (.inl (by decide))]
  exact Nat.le_refl _
/-! ### What is left of a string, and its symbols -/

/-- What is left of a string from byte n on. -/
def rest (s : ByteArray) (n : Nat) : List UInt8 := s.data.toList.drop n
theorem rest_len (s : ByteArray) (n : Nat) : (rest s n).length = s.size - n := by unfold rest; rw [List.length_drop, ← Lib.size_eq]
theorem rest_ne (s : ByteArray) (n : Nat) (h : n < s.size) : rest s n ≠ [] := by
  intro e
  have := rest_len s n
  rw [e] at this
  simp at this
  omega
theorem rest_nil (s : ByteArray) (n : Nat) (h : s.size ≤ n) : rest s n = [] := List.eq_nil_of_length_eq_zero (by rw [rest_len]; omega)
theorem rest_drop (s : ByteArray) (n k : Nat) : (rest s n).drop k = rest s (n + k) := by unfold rest; rw [List.drop_drop]
theorem rest_zero (s : ByteArray) : rest s 0 = s.data.toList := rfl
theorem rest_cons (s : ByteArray) (n : Nat) (h : n < s.size) : rest s n = s[n] :: rest s (n + 1) := by
  have hl := Lib.size_eq s
  unfold rest
  rw [List.drop_eq_getElem_cons (by omega)]
  rfl
theorem tail_rest (s : ByteArray) (n : Nat) : (s.extract n s.size).data.toList = rest s n := Lib.extract_to_end s n
theorem piece_rest (s : ByteArray) (n k : Nat) : (s.extract n (n + k)).data.toList = (rest s n).take k := by
  rw [Lib.extract_data, Nat.add_sub_cancel_left]
  rfl
theorem rn_rest (s : ByteArray) (n : Nat) : rn (rest s n) = (((Utf8.decode s n).1 : Nat) : Int) := by unfold Wrd.rn rest; rw [Lib.decodeL_drop]
theorem wd_rest (s : ByteArray) (n : Nat) : wd (rest s n) = (Utf8.decode s n).2 := by unfold Wrd.wd rest; rw [Lib.decodeL_drop]
theorem runeAt_rest (s : ByteArray) (n : Nat) (h : n < s.size) : runeAt s (n : Int) = (rn (rest s n), ((wd (rest s n) : Nat) : Int)) := by rw [runeAt_in s n h, rn_rest, wd_rest]
theorem below_drewN {B : Nat} {a w : World} (h : Below B a w) (n : Nat) : Below B a (w.drewN n) := ⟨h.os, h.tape, h.output, h.size, h.block⟩
theorem bytes_ext {a b : ByteArray} (h : a.data.toList = b.data.toList) : a = b := by
  apply ByteArray.ext
  exact Array.toList_inj.1 h

theorem sym_of (c : Int) (h : classI c = 5) : symP c = true := by
  unfold symP
  rw [h]
  rfl
theorem runEnd_rest (s : ByteArray) : ∀ (f n : Nat), s.size ≤ n + f → n ≤ s.size → runEnd s 5 f n = n + run symP (rest s n)
  | 0, n, hf, hn => by
    rw [run_stop symP (rest s n) (.inl (rest_nil s _ (by omega)))]
    unfold runEnd
    omega
  | f + 1, n, hf, hn => by
    by_cases h : n < s.size
    · have hw := width_ge s n
      have hx := width_fits s n h
      unfold runEnd
      rw [if_pos h]
      by_cases c : classI (((Utf8.decode s n).1 : Nat) : Int) = 5
      · rw [if_pos c, runEnd_rest s f _ (by omega) hx, run_step symP (rest s n) (rest_ne s n h) (by rw [rn_rest]; exact sym_of _ c), wd_rest, rest_drop, Nat.add_assoc]
      · rw [if_neg c, run_stop symP (rest s n) (.inr (by rw [rn_rest]; unfold symP; simpa using c))]
        rfl
    · rw [runEnd_end s 5 (f + 1) n h, run_stop symP (rest s n) (.inl (rest_nil s _ (by omega)))]
      omega
theorem runI_rest (s : ByteArray) (n : Nat) (hn : n ≤ s.size) : runI s (n : Int) 5 = ((n + run symP (rest s n) : Nat) : Int) := by
  unfold runI
  rw [if_neg (by omega), Int.toNat_natCast, runEnd_rest s _ _ (by omega) hn]
theorem symbols_any (s : ByteArray) (n : Nat) (hs : s.size ≤ 1125899906842624) (hn : n ≤ s.size) (w : World) :
    Calls Tryz.prog 61 #[.string s, .int .i64 (n : Int), .int .i64 5] w fun e w' => e = .returned (.int .i64 ((n + run symP (rest s n) : Nat) : Int)) ∧ Below w.heap.size w w' := by
  have := run_any s (n : Int) 5 (by unfold maxLen; omega) w
  rw [runI_rest s n hn] at this
  exact this

theorem refrun_any (s : ByteArray) (n : Nat) (hs : s.size ≤ 1125899906842624) (hn : n ≤ s.size) (w : World) :
    Calls Tryz.prog 41 #[.string s, .int .i64 (n : Int), .int .i64 5] w fun e w' => e = .returned (.int .i64 ((n + run symP (rest s n) : Nat) : Int)) ∧ w = w' := by
  have b1 : decide ((n : Int) < 0) = false := decide_eq_false (by omega)
  have b2 : decide (s.size < n) = false := decide_eq_false (by omega)
  go_enter Tryz.func41, Tryz.ntmps41
  go_wp2
  go_loop [1, 6] (fun i _ => ∃ (p : Nat), i = .int .i64 (p : Int) ∧ p ≤ s.size ∧ p + run symP (rest s p) = n + run symP (rest s n)) (fun i _ => s.size - (intOf i).toNat)
  case atStart => exact ⟨n, rfl, hn, rfl⟩
  case round =>
    obtain ⟨p, rfl, hp0, hq⟩ := hrel
    have HQ := Lib.hid hq
    clear hq
    by_cases hp : p < s.size
    · have c1 := fun W => refnext_any s p hs W
      rw [runeAt_rest s p hp] at c1
      dsimp only at c1
      have hw := wd_pos (rest s p)
      have hx := wd_le (rest s p) (rest_ne s p hp)
      have hl := rest_len s p
      have hst := run_step symP (rest s p) (rest_ne s p hp)
      rw [rest_drop] at hst
      have hsp := run_stop symP (rest s p)
      have hsy : symP (rn (rest s p)) = (classI (rn (rest s p)) == 5) := rfl
      generalize rn (rest s p) = c at *
      generalize wd (rest s p) = d at *
      have c2 := fun W => refclass_any c W
      generalize classI c = k at *
      have C1 := Lib.hid c1
      have C2 := Lib.hid c2
      have HST := Lib.hid hst
      have HSP := Lib.hid hsp
      clear c1 c2 hst hsp
      by_cases h : k = 5
      · have E : Hid (symP c = true) := by unfold Hid; rw [hsy, h]; rfl
        have b3 : (k != 5) = false := by rw [bne_eq_false_iff_eq]; exact h
        clear hsy h
        go_wp2_with fail
        refine (C1.out _).mono ?_
        rintro e w1 ⟨rfl, rfl⟩
        go_wp2_with fail
        refine (C2.out _).mono ?_
        rintro e w1 ⟨rfl, rfl⟩
        go_wp2_with fail
        go_round
        case rel => exact ⟨p + d, by go_num, by omega, by rw [← HQ.out, HST.out E.out, Nat.add_assoc]⟩
        case measure => simp [intOf]; omega
      · have E : Hid (symP c = false) := by unfold Hid; rw [hsy, beq_eq_false_iff_ne]; exact h
        have b3 : (k != 5) = true := by rw [bne_iff_ne]; exact h
        clear hsy h
        go_wp2_with fail
        refine (C1.out _).mono ?_
        rintro e w1 ⟨rfl, rfl⟩
        go_wp2_with fail
        refine (C2.out _).mono ?_
        rintro e w1 ⟨rfl, rfl⟩
        go_wp2_with fail
        go_ret
        refine ⟨?_, rfl⟩
        have := HQ.out
        rw [HSP.out (.inr E.out), Nat.add_zero] at this
        rw [← this]
        rfl
    · go_wp2_with fail
      go_ret
      obtain rfl : p = s.size := by omega
      refine ⟨?_, rfl⟩
      have := HQ.out
      rw [run_stop symP (rest s s.size) (.inl (rest_nil s _ (Nat.le_refl _))), Nat.add_zero] at this
      first | (rw [← this]; rfl) | (rw [← Int.natCast_add, ← this]; rfl)

end Go.Proofs.YtkehchajgdepaaaGreatDoor.Not
/-
  Mathematics: the lines that place cuts are those of the comments' mathematics; Trim's answer likewise; a newline at a byte. No condition.
-/
namespace Go.Proofs.YtkehchajgdepaaaGreatDoor.Not
open Go.RowKit Gly
open Plc (bt nlAt cut linesL trimS trimEnd bt_in)
set_option linter.unusedSimpArgs false
set_option linter.unusedVariables false

theorem bt_rest (s : ByteArray) (p : Nat) (h : p < s.size) : bt s p = s[p].toNat := bt_in s p h
theorem u8_eq (b : UInt8) (k : Nat) (hk : k < 256) : b.toNat = k ↔ b = UInt8.ofNat k := by
  constructor
  · intro h
    rw [← h]
    simp
  · rintro rfl
    rw [UInt8.toNat_ofNat']
    omega
theorem nl_iff (b : UInt8) : nl b = true ↔ (b.toNat = 10 ∨ b.toNat = 12 ∨ b.toNat = 13) := by
  have h := byte_all (fun b => nl b == (decide (b.toNat = 10) || (decide (b.toNat = 12) || decide (b.toNat = 13)))) (by decide +kernel) b
  rw [beq_iff_eq.1 h]
  simp
theorem nlAt_nl (s : ByteArray) (p : Nat) (h : p < s.size) : nl s[p] = true ↔ nlAt s p ≠ 0 := by
  rw [nl_iff, ← bt_rest s p h]
  unfold Plc.nlAt
  (repeat' split) <;> omega
theorem nlEnd_hit (s : ByteArray) (p : Nat) (h : p < s.size) (hn : nlAt s p ≠ 0) : nlEnd (rest s p) = 0 := by
  rw [rest_cons s p h, nlEnd, if_pos ((nlAt_nl s p h).2 hn)]
theorem nlEnd_miss (s : ByteArray) (p : Nat) (h : p < s.size) (hn : nlAt s p = 0) : nlEnd (rest s p) = nlEnd (rest s (p + 1)) + 1 := by
  rw [rest_cons s p h, nlEnd, if_neg]
  intro e
  exact (nlAt_nl s p h).1 e hn

/-- Bytes put ahead of the first line. -/
def consAll (x : List UInt8) : List (List UInt8) → List (List UInt8)
  | [] => []
  | l :: ls => (x ++ l) :: ls
theorem consAll_nil (L : List (List UInt8)) : consAll [] L = L := by cases L <;> rfl
theorem consAll_one (x : List UInt8) (b : UInt8) (L : List (List UInt8)) (h : L ≠ []) : consAll (x ++ [b]) L = consAll x (consH b L) := by
  cases L with
  | nil => exact absurd rfl h
  | cons l ls =>
    unfold consH consAll
    simp
theorem lines_at (s : ByteArray) (p : Nat) (h : p < s.size) (hn : nlAt s p ≠ 0) : linesB (rest s p) = [] :: linesB (rest s (p + nlAt s p)) := by
  have hle := Plc.nlAt_le s p
  rcases (show nlAt s p = 1 ∨ nlAt s p = 2 by omega) with e | e
  · rw [e, rest_cons s p h]
    refine linesB_one _ _ ((nlAt_nl s p h).2 hn) ?_
    rintro ⟨h1, h2⟩
    have hp : p + 1 < s.size := by
      rcases Nat.lt_or_ge (p + 1) s.size with hh | hh
      · exact hh
      · rw [rest_nil s _ hh] at h2
        exact absurd h2 (by simp)
    rw [rest_cons s _ hp] at h2
    have h2 : s[p + 1] = 10 := by simpa using h2
    have b1 := bt_rest s p h
    have b2 := bt_rest s (p + 1) hp
    rw [h1] at b1
    rw [h2] at b2
    have b1 : bt s p = 13 := b1
    have b2 : bt s (p + 1) = 10 := b2
    unfold Plc.nlAt at e
    rw [if_neg (by omega), if_neg (by omega), if_pos b1, if_pos ⟨hp, b2⟩] at e
    omega
  · obtain ⟨hp, b1, b2, -⟩ := Plc.nl_two s p e
    rw [bt_rest s p h] at b1
    rw [bt_rest s (p + 1) hp] at b2
    rw [e, rest_cons s p h, rest_cons s (p + 1) hp, (u8_eq _ 13 (by decide)).1 b1, (u8_eq _ 10 (by decide)).1 b2]
    exact linesB_two _
theorem piece_step (s : ByteArray) (b p : Nat) (hb : b ≤ p) (hp : p < s.size) : (s.extract b (p + 1)).data.toList = (s.extract b p).data.toList ++ [s[p]] := by
  rw [Lib.extract_data, Lib.extract_data]
  have hl := Lib.size_eq s
  rw [show p + 1 - b = (p - b) + 1 by omega, List.take_add_one]
  congr 1
  rw [List.getElem?_drop, show b + (p - b) = p by omega, List.getElem?_eq_getElem (by omega)]
  rfl
theorem piece_nil (s : ByteArray) (b : Nat) : (s.extract b b).data.toList = [] := by
  rw [Lib.extract_data, Nat.sub_self]
  rfl
theorem cut_lines (s : ByteArray) : ∀ (k f b p : Nat), s.size - p ≤ k → b ≤ p → p ≤ s.size → s.size ≤ p + f → (cut s f b p).map (·.data.toList) = consAll (s.extract b p).data.toList (linesB (rest s p)) := by
  have stop : ∀ (f b p : Nat), p = s.size → (cut s f b p).map (·.data.toList) = consAll (s.extract b p).data.toList (linesB (rest s p)) := by
    rintro f b p rfl
    rw [Plc.cut_end s f b _ (by omega), rest_nil s _ (Nat.le_refl _)]
    show _ = [_ ++ []]
    rw [List.append_nil]
    rfl
  intro k
  induction k with
  | zero => exact fun f b p h0 _ hp _ => stop f b p (by omega)
  | succ k ih =>
    intro f b p h0 hb hp hf
    by_cases h : p < s.size
    · by_cases hn : nlAt s p = 0
      · rw [Plc.cut_one s f b p h hn hf, ih (f - 1) b (p + 1) (by omega) (by omega) (by omega) (by omega), piece_step s b p hb h, consAll_one _ _ _ (linesB_ne _), rest_cons s p h, linesB_plain]
        have := nlAt_nl s p h
        cases hh : nl s[p]
        · rfl
        · exact absurd hn (this.1 hh)
      · have hx := Plc.nlAt_fits s p hp
        rw [Plc.cut_at s f b p h hn hf, List.map_cons, ih (f - 1) _ _ (by omega) (Nat.le_refl _) hx (by omega), piece_nil, consAll_nil, lines_at s p h hn]
        show _ = (_ ++ []) :: _
        rw [List.append_nil]
    · exact stop f b p (by omega)
theorem lines_link (s : ByteArray) : (linesL s).map (·.data.toList) = linesB s.data.toList := by
  unfold Plc.linesL
  rw [cut_lines s s.size s.size 0 0 (by omega) (by omega) (by omega) (by omega), piece_nil, consAll_nil]
  rfl

theorem blank_blk (b : UInt8) : Plc.isBlank b.toNat ↔ blk b = true := by
  unfold Plc.isBlank blk
  rw [decide_eq_true_iff]
theorem trim_link (s : ByteArray) : (trimS s).data.toList = trimR s.data.toList := by
  have hle := Plc.trimEnd_le s s.size
  have hl := Lib.size_eq s
  have hx : (trimS s).data.toList = s.data.toList.take (trimEnd s s.size) := by
    unfold Plc.trimS
    rw [Lib.extract_data, List.drop_zero, Nat.sub_zero]
  rw [hx]
  have hg : ∀ j, (h : j < s.size) → s.data.toList[j]'(by omega) = s[j] := fun _ _ => rfl
  have := trimR_append (s.data.toList.take (trimEnd s s.size)) (s.data.toList.drop (trimEnd s s.size)) ?_ ?_
  · rw [List.take_append_drop] at this
    exact this.symm
  · intro b hb
    obtain ⟨j, hj, rfl⟩ := List.getElem_of_mem hb
    rw [List.length_drop] at hj
    rw [List.getElem_drop, hg _ (by omega), ← blank_blk, ← bt_rest s _ (by omega)]
    exact Plc.trimEnd_blank s s.size _ (by omega) (by omega)
  · intro b hb
    have h0 : 0 < trimEnd s s.size := by
      rcases Nat.eq_zero_or_pos (trimEnd s s.size) with h | h
      · rw [h] at hb
        simp at hb
      · exact h
    rw [List.getLast?_eq_getElem?, List.length_take, Nat.min_eq_left (by omega), List.getElem?_take_of_lt (by omega), List.getElem?_eq_getElem (by omega), hg _ (by omega)] at hb
    obtain rfl := Option.some.inj hb
    cases hh : blk (s[trimEnd s s.size - 1]'(by omega)) with
    | false => rfl
    | true =>
      have := (blank_blk _).2 hh
      rw [← bt_rest s _ (by omega)] at this
      exact absurd this (Plc.trimEnd_last s s.size h0)
/-- A line without its blanks, as a string. -/
def bareS (x : ByteArray) : ByteArray := ⟨(bareB x.data.toList).toArray⟩
theorem bareS_data (x : ByteArray) : (bareS x).data.toList = bareB x.data.toList := rfl
theorem bareS_size (x : ByteArray) : (bareS x).size ≤ x.size := by
  rw [Lib.size_eq, Lib.size_eq, bareS_data]
  exact bareB_le _
/-- The lines of a comment without their blanks. -/
def barS (s : ByteArray) : List ByteArray := (linesL s).map bareS
theorem barS_data (s : ByteArray) : (barS s).map (·.data.toList) = barL s.data.toList := by
  unfold barS barL
  rw [← lines_link, List.map_map, List.map_map]
  rfl
theorem barS_len (s : ByteArray) : (barS s).length ≤ s.size + 1 := by
  unfold barS
  rw [List.length_map]
  exact Plc.linesL_le s
theorem barS_ne (s : ByteArray) : barS s ≠ [] := by
  intro h
  have := barS_data s
  rw [h] at this
  exact barL_ne _ this.symm
theorem line_size (s : ByteArray) (x : ByteArray) (h : x ∈ linesL s) : x.size ≤ s.size := by
  have h1 : x.data.toList ∈ linesB s.data.toList := by
    rw [← lines_link]
    exact List.mem_map_of_mem h
  have h2 := total_mem _ _ h1
  have h3 := (lines_total s.data.toList false).1
  rw [Lib.size_eq, Lib.size_eq]
  exact Nat.le_trans h2 h3
end Go.Proofs.YtkehchajgdepaaaGreatDoor.Not
