/-
  The contracts of the library's functions at this program (strings.Builder, HasPrefix, Trim, TrimLeft, ReplaceAll at one byte, Repeat), each the library's own theorem, the numbers put in; and where a row of symbols ends, by glyph.Run and by the document's own Run. Conditions: what a builder holds and gets is below 2^47 bytes; a line is below 2^32 bytes; other strings at most 2^50 bytes.
-/
import Derived.Test.YtmgclgojmckfhaaGreatDoorShf
import Derived.Test.YtmgclgojmckfhaaGreatDoorZMthB
import Derived.Test.YtmgclgojmckfhaaGreatDoorZGlyB
import Derived.Test.YtmgclgojmckfhaaGreatDoorZPlcL
import Derived.Lib.SmallJoins
import Derived.Lib.SplitLaws
import Derived.Deep.Draws
import Derived.Lib.Hide
import Derived.Lib.Strings
import Derived.Lib.Replace
import Derived.Lib.ReplaceLaws
import Derived.Handy
import Derived.LoopTactic
import Derived.Laws.RangeAny
import Derived.Laws.Runes
import Derived.Lib.MapLaws
import Derived.Shelf.Small.Utf8
import Derived.Shelf.Strings.Runes
import Derived.Shelf.Strings.AsciiSet
import Derived.Shelf.Strings.IndexAnyAll
import Derived.Deep.QuietTactic
import Derived.BigQuiet
import Derived.WalkMore
import Derived.WalkKit
namespace Go.Proofs
open Go.Shelf
end Go.Proofs
namespace Go.Proofs.YtmgclgojmckfhaaGreatDoor.Not
open Go.RowKit Gly
open Wrd (rn wd run run_le run_stop run_step wd_pos wd_le)
set_option linter.unusedSimpArgs false
set_option linter.unusedVariables false

/-! ### Builders -/

theorem builder_kept {T e : TypeId} {B b : Nat} {bs : List Value} {w w' : World} (h : Lib.IsBuilderF T e B b bs w)
    (hk : ∀ (k : Nat) (c : Array Value) (t : TypeId) (fz : Nat × Nat), w.heap[k]? = some (Obj.cells c t fz) → (t = T ∨ t = e) → w'.heap[k]? = some (Obj.cells c t fz)) : Lib.IsBuilderF T e B b bs w' := by
  have key : ∀ p, Lib.BuilderAtF T e B b p bs w → Lib.BuilderAtF T e B b p bs w' := by
    rintro p ⟨hB, v, hb, hown, hne⟩
    refine ⟨hB, v, hk _ _ _ _ hb (.inl rfl), ⟨hown.1, ?_⟩, hne⟩
    rcases hown.2 with hn | ⟨g, cap, cur, fz, rfl, h1, h2, h3⟩
    · exact .inl hn
    · exact .inr ⟨g, cap, cur, fz, rfl, h1, hk _ _ _ _ h2 (.inr rfl), h3⟩
  exact h.elim (fun x => .inl (key _ x)) (fun x => .inr (key _ x))
theorem builder_below {T e : TypeId} {B b : Nat} {bs : List Value} {w w' : World} (h : Lib.IsBuilderF T e B b bs w) (hb : Below w.heap.size w w') : Lib.IsBuilderF T e B b bs w' :=
  builder_kept h fun k _ _ _ hk _ => (hb.block k (lt_of_block hk)).trans hk
/-- What a builder holds. -/
def Bld (B b : Nat) (bs : List UInt8) (w : World) : Prop := Lib.IsBuilderF 71 5 B b (Lib.byteCells bs) w
theorem Bld.below {B b : Nat} {l : List UInt8} {w w' : World} (h : Bld B b l w) (hb : Below w.heap.size w w') : Bld B b l w' := builder_below h hb

/-! ### The rest of the library -/

theorem prefix_any (s p : ByteArray) (w : World) :
    Calls Tryz.prog 57 #[.string s, .string p] w fun e w' => e = .returned (.bool (Lib.hasPrefix s.data.toList p.data.toList)) ∧ w = w' := by
  refine (Any.strings_HasPrefix Tryz.lays99 s p w).mono ?_
  rintro e w' ⟨rfl, rfl⟩
  exact ⟨rfl, rfl⟩
theorem hasPrefix_opn (L : List UInt8) : Lib.hasPrefix L [123, 45] = opn L := by
  match L with
  | [] => rfl
  | [b] => simp [Lib.hasPrefix, opn, List.isPrefixOf]
  | b :: c :: r =>
    simp only [Lib.hasPrefix, opn, List.isPrefixOf, Bool.and_true]
    rw [show ((123 : UInt8) == b) = (b == 123) from Bool.beq_comm, show ((45 : UInt8) == c) = (c == 45) from Bool.beq_comm]
theorem opn_any (s : ByteArray) (w : World) :
    Calls Tryz.prog 57 #[.string s, .string ⟨#[123, 45]⟩] w fun e w' => e = .returned (.bool (opn s.data.toList)) ∧ w = w' := by
  have h := prefix_any s ⟨#[123, 45]⟩ w
  rw [show (⟨#[123, 45]⟩ : ByteArray).data.toList = [123, 45] from rfl, hasPrefix_opn] at h
  exact h
theorem trimDash_any (s : ByteArray) (hs : s.size ≤ 1125899906842624) (w : World) :
    Calls Tryz.prog 95 #[.string s, .string ⟨#[45]⟩] w fun e w' => e = .returned (.string ⟨(Lib.trimB s.data.toList 45).toArray⟩) ∧ Below w.heap.size w w' := by
  refine (Any.strings_Trim_one Tryz.lays160 s 45 (by decide) w (by omega)).mono ?_
  rintro e w' ⟨rfl, h⟩
  refine ⟨rfl, ?_⟩
  rcases h with rfl | rfl
  · exact Below.refl _ _
  · exact ⟨rfl, rfl, rfl, Nat.le_refl _, fun _ _ => rfl⟩
theorem drop_nil (p : UInt8 → Bool) : ∀ (l : List UInt8), l.dropWhile p = [] ↔ ∀ b ∈ l, p b = true
  | [] => ⟨fun _ _ h => (nomatch h), fun _ => rfl⟩
  | c :: l => by
    rw [List.dropWhile_cons]
    split
    · rename_i h
      rw [drop_nil p l]
      constructor
      · intro q b hb
        rcases List.mem_cons.1 hb with rfl | hb
        · exact h
        · exact q b hb
      · exact fun q b hb => q b (List.mem_cons_of_mem _ hb)
    · rename_i h
      exact ⟨fun q => (nomatch q), fun q => absurd (q c (List.mem_cons_self ..)) h⟩
theorem take_all (p : UInt8 → Bool) : ∀ (l : List UInt8), ∀ b ∈ l.takeWhile p, p b = true
  | [], _, h => by simp at h
  | c :: l, b, h => by
    rw [List.takeWhile_cons] at h
    split at h
    · rename_i hc
      rcases List.mem_cons.1 h with rfl | h
      · exact hc
      · exact take_all p l b h
    · exact (nomatch h)
theorem trimB_dash (l : List UInt8) : Lib.trimB l 45 = [] ↔ ∀ b ∈ l, b = 45 := by
  unfold Lib.trimB Lib.trimLeftB Lib.trimRightB
  rw [drop_nil]
  constructor
  · intro h b hb
    by_cases hr : b ∈ (l.reverse.dropWhile (· == 45)).reverse
    · exact beq_iff_eq.1 (h b hr)
    · have hb2 : b ∈ l.reverse := List.mem_reverse.2 hb
      rw [← List.takeWhile_append_dropWhile (p := (· == 45)) (l := l.reverse)] at hb2
      rcases List.mem_append.1 hb2 with h2 | h2
      · exact beq_iff_eq.1 (take_all _ _ b h2)
      · exact absurd (List.mem_reverse.2 h2) hr
  · intro h b hb
    exact beq_iff_eq.2 (h b (List.mem_reverse.1 ((List.dropWhile_sublist _).mem (List.mem_reverse.1 hb))))
/-! ### What is left of a string, and its symbols -/

/-- What is left of a string from byte n on. -/
def rest (s : ByteArray) (n : Nat) : List UInt8 := s.data.toList.drop n
theorem rest_len (s : ByteArray) (n : Nat) : (rest s n).length = s.size - n := by unfold rest; rw [List.length_drop, ← Lib.size_eq]
theorem rest_ne (s : ByteArray) (n : Nat) (h : n < s.size) : rest s n ≠ [] := by
  intro e
  have := rest_len s n
  rw [e] at this
  simp at this
  omega
theorem rest_nil (s : ByteArray) (n : Nat) (h : s.size ≤ n) : rest s n = [] := List.eq_nil_of_length_eq_zero (by rw [rest_len]; omega)
theorem rest_drop (s : ByteArray) (n k : Nat) : (rest s n).drop k = rest s (n + k) := by unfold rest; rw [List.drop_drop]
theorem rest_zero (s : ByteArray) : rest s 0 = s.data.toList := rfl
theorem rest_cons (s : ByteArray) (n : Nat) (h : n < s.size) : rest s n = s[n] :: rest s (n + 1) := by
  have hl := Lib.size_eq s
  unfold rest
  rw [List.drop_eq_getElem_cons (by omega)]
  rfl
theorem tail_rest (s : ByteArray) (n : Nat) : (s.extract n s.size).data.toList = rest s n := Lib.extract_to_end s n
theorem piece_rest (s : ByteArray) (n k : Nat) : (s.extract n (n + k)).data.toList = (rest s n).take k := by
  rw [Lib.extract_data, Nat.add_sub_cancel_left]
  rfl
theorem rn_rest (s : ByteArray) (n : Nat) : rn (rest s n) = (((Utf8.decode s n).1 : Nat) : Int) := by unfold Wrd.rn rest; rw [Lib.decodeL_drop]
theorem wd_rest (s : ByteArray) (n : Nat) : wd (rest s n) = (Utf8.decode s n).2 := by unfold Wrd.wd rest; rw [Lib.decodeL_drop]
theorem runeAt_rest (s : ByteArray) (n : Nat) (h : n < s.size) : runeAt s (n : Int) = (rn (rest s n), ((wd (rest s n) : Nat) : Int)) := by rw [runeAt_in s n h, rn_rest, wd_rest]
theorem below_drewN {B : Nat} {a w : World} (h : Below B a w) (n : Nat) : Below B a (w.drewN n) := ⟨h.os, h.tape, h.output, h.size, h.block⟩
theorem bytes_ext {a b : ByteArray} (h : a.data.toList = b.data.toList) : a = b := by
  apply ByteArray.ext
  exact Array.toList_inj.1 h

theorem sym_of (c : Int) (h : classI c = 5) : symP c = true := by
  unfold symP
  rw [h]
  rfl
theorem runEnd_rest (s : ByteArray) : ∀ (f n : Nat), s.size ≤ n + f → n ≤ s.size → runEnd s 5 f n = n + run symP (rest s n)
  | 0, n, hf, hn => by
    rw [run_stop symP (rest s n) (.inl (rest_nil s _ (by omega)))]
    unfold runEnd
    omega
  | f + 1, n, hf, hn => by
    by_cases h : n < s.size
    · have hw := width_ge s n
      have hx := width_fits s n h
      unfold runEnd
      rw [if_pos h]
      by_cases c : classI (((Utf8.decode s n).1 : Nat) : Int) = 5
      · rw [if_pos c, runEnd_rest s f _ (by omega) hx, run_step symP (rest s n) (rest_ne s n h) (by rw [rn_rest]; exact sym_of _ c), wd_rest, rest_drop, Nat.add_assoc]
      · rw [if_neg c, run_stop symP (rest s n) (.inr (by rw [rn_rest]; unfold symP; simpa using c))]
        rfl
    · rw [runEnd_end s 5 (f + 1) n h, run_stop symP (rest s n) (.inl (rest_nil s _ (by omega)))]
      omega
theorem runI_rest (s : ByteArray) (n : Nat) (hn : n ≤ s.size) : runI s (n : Int) 5 = ((n + run symP (rest s n) : Nat) : Int) := by
  unfold runI
  rw [if_neg (by omega), Int.toNat_natCast, runEnd_rest s _ _ (by omega) hn]
theorem symbols_any (s : ByteArray) (n : Nat) (hs : s.size ≤ 1125899906842624) (hn : n ≤ s.size) (w : World) :
    Calls Tryz.prog 44 #[.string s, .int .i64 (n : Int), .int .i64 5] w fun e w' => e = .returned (.int .i64 ((n + run symP (rest s n) : Nat) : Int)) ∧ Below w.heap.size w w' := by
  have := run_any s (n : Int) 5 (by unfold maxLen; omega) w
  rw [runI_rest s n hn] at this
  exact this

end Go.Proofs.YtmgclgojmckfhaaGreatDoor.Not
/-
  Mathematics: the lines that place cuts are those of the comments' mathematics; Trim's answer likewise; a newline at a byte. No condition.
-/
namespace Go.Proofs.YtmgclgojmckfhaaGreatDoor.Not
open Go.RowKit Gly
open Plc (bt nlAt cut linesL trimS trimEnd bt_in)
set_option linter.unusedSimpArgs false
set_option linter.unusedVariables false

theorem bt_rest (s : ByteArray) (p : Nat) (h : p < s.size) : bt s p = s[p].toNat := bt_in s p h
theorem nl_iff (b : UInt8) : nl b = true ↔ (b.toNat = 10 ∨ b.toNat = 12 ∨ b.toNat = 13) := by
  have h := byte_all (fun b => nl b == (decide (b.toNat = 10) || (decide (b.toNat = 12) || decide (b.toNat = 13)))) (by decide +kernel) b
  rw [beq_iff_eq.1 h]
  simp
end Go.Proofs.YtmgclgojmckfhaaGreatDoor.Not
/-
  Where the first newline byte stands, by strings.IndexAny at the three newline bytes: any text of at most 2^50 bytes.
-/
namespace Go.Proofs.YtmgclgojmckfhaaGreatDoor.Not
open Go.RowKit Gly
set_option linter.unusedSimpArgs false
set_option linter.unusedVariables false

theorem ascii_at (x : UInt8) : (0 ≤ Lib.indexByte [10, 12, 13] x) ↔ nl x = true := by
  have h := byte_all (fun x => decide (0 ≤ Lib.indexByte [10, 12, 13] x) == nl x) (by decide +kernel) x
  rw [← beq_iff_eq.1 h, decide_eq_true_iff]
theorem rune_ascii (r : Int) (h0 : 0 ≤ r) (h : r < 128) (w : World) :
    Calls Tryz.prog 96 #[.string ⟨#[10, 12, 13]⟩, .int .i32 r] w fun e w' => e = .returned (.int .i64 (Lib.indexByte [10, 12, 13] r.toNat.toUInt8)) ∧ w = w' :=
  (Any.strings_IndexRune_ascii Tryz.lays152 ⟨#[10, 12, 13]⟩ r w h0 h).mono fun e w' ⟨h1, h2⟩ => ⟨h1, h2.symm⟩

theorem dec_three (p : Nat) (hp : p < 3) : (Utf8.decode ⟨#[10, 12, 13]⟩ p).2 = 1 ∧ (((((Utf8.decode ⟨#[10, 12, 13]⟩ p).1 : Nat) : Int) == 65533) = false) := by
  have h : ∀ k : Fin 3, (Utf8.decode ⟨#[10, 12, 13]⟩ k.val).2 = 1 ∧ (((((Utf8.decode ⟨#[10, 12, 13]⟩ k.val).1 : Nat) : Int) == 65533) = false) := by decide +kernel
  exact h ⟨p, hp⟩

set_option maxRecDepth 1000000 in
set_option maxHeartbeats 4000000 in
theorem rune_bad (w : World) :
    Calls Tryz.prog 96 #[.string ⟨#[10, 12, 13]⟩, .int .i32 65533] w fun e w' => e = .returned (.int .i64 (-1)) ∧ Below w.heap.size w w' := by
  go_enter Tryz.func96, Tryz.ntmps96
  go_wp2_with fail
  obtain ⟨K, hK⟩ : ∃ K : ByteArray, (⟨#[10, 12, 13]⟩ : ByteArray) = K := ⟨_, rfl⟩
  have hKs : K.size = 3 := by rw [← hK]; rfl
  have hd := dec_three
  rw [hK] at hd
  go_loopw [] (fun wr => ∃ p : Nat, wr.heap[w.heap.size]? = some (.stringIter ⟨#[10, 12, 13]⟩ p) ∧ Below w.heap.size w wr ∧ p ≤ 3) (fun wr => 3 - wr.iterPos w.heap.size)
  case atStart => exact ⟨0, World.iter_heap _ _ _, (Below.refl _ _).alloc (Nat.le_refl _) _, by omega⟩
  case round =>
    obtain ⟨p, hit, hbw, hp0⟩ := hrel
    have HIT := Lib.hid hit
    have HBW := Lib.hid hbw
    clear hit hbw
    by_cases hp : p < 3
    · obtain ⟨W2, hnx, it2, hb2, hz3, ho2⟩ := Plc.next_in HIT.out HBW.out (Nat.le_refl _) (show p < (⟨#[10, 12, 13]⟩ : ByteArray).size from hp)
      obtain ⟨h1, h2⟩ := hd p hp
      rw [← hK] at h1 h2
      rw [h1] at it2
      have IT2 := Lib.hid it2
      have HB2 := Lib.hid hb2
      clear it2 hb2 ho2 hz3
      go_wp2_with fail
      go_roundw
      case rel => exact ⟨p + 1, IT2.out, HB2.out, by omega⟩
      case measure => rw [Plc.iterPos_of IT2.out, Plc.iterPos_of HIT.out]; omega
    · have hnx : ∀ ty, (Instr.next (.pointer (some ⟨w.heap.size, 0, none⟩)) true ty).run Tryz.prog wr = .ok (.tuple #[.bool false]) wr := fun ty => Lib.run_next_end_at (P := Tryz.prog) wr w.heap.size ⟨#[10, 12, 13]⟩ p ty HIT.out hp
      go_wp2_with fail
      go_ret
      exact ⟨rfl, HBW.out⟩

theorem thirteen_no (c : UInt8) (h : 128 ≤ c.toNat) : Lib.indexByte [13] c = -1 := by
  have := byte_all (fun c => decide (c.toNat < 128) || decide (Lib.indexByte [13] c = -1)) (by decide +kernel) c
  simp only [Bool.or_eq_true, decide_eq_true_eq] at this
  omega
theorem byte_any (s : ByteArray) (c : Int) (w : World) :
    Calls Tryz.prog 117 #[.string s, .int .u8 c] w fun e w' => e = .returned (.int .i64 (Lib.indexByte s.data.toList c.toNat.toUInt8)) ∧ w' = w :=
  Any.strings_IndexByte Tryz.lays137 s c w

set_option maxRecDepth 1000000 in
set_option maxHeartbeats 8000000 in
theorem rune_far (r : Int) (h128 : 128 ≤ r) (hne : r ≠ 65533) (w : World) :
    Calls Tryz.prog 96 #[.string ⟨#[10, 12, 13]⟩, .int .i32 r] w fun e w' => e = .returned (.int .i64 (-1)) ∧ Below w.heap.size w w' := by
  have c1 := fun W => Any.utf8_ValidRune Tryz.lays119 r W
  have t1 : decide (0 ≤ r) = true := decide_eq_true (by omega)
  have t2 : decide (r < 128) = false := decide_eq_false (by omega)
  have t3 : (r == 65533) = false := beq_eq_false_iff_ne.2 hne
  have C1 : Hid (∀ W : World, Calls Tryz.prog 118 #[.int .i32 r] W fun e w' => e = .returned (.bool (Lib.validRune r)) ∧ W = w') := fun W => (c1 W).mono fun e w' ⟨h1, h2⟩ => ⟨h1, h2.symm⟩
  clear c1
  cases hv : Lib.validRune r with
  | false =>
    rw [hv] at C1
    go_enter Tryz.func96, Tryz.ntmps96
    go_wp2_with fail
    refine (C1.out _).mono ?_
    rintro e w1 ⟨rfl, rfl⟩
    go_wp2_with fail
    go_ret
    exact ⟨rfl, Below.refl _ _⟩
  | true =>
    rw [hv] at C1
    have hcv := fun W => run_convert_int_string (P := Tryz.prog) W 21 9 .i32 r (by rw [Tryz.underlying21]; rfl) Tryz.underlying9
    have hv2 : Utf8.valid r = true := by
      unfold Lib.validRune at hv
      unfold Utf8.valid
      simp only [Bool.and_eq_true, Bool.or_eq_true, Bool.not_eq_true', decide_eq_true_eq, decide_eq_false_iff_not] at hv ⊢
      omega
    obtain ⟨e1, e2, e3⟩ := encode_facts r hv2 h128
    generalize Utf8.encode r = e at *
    obtain ⟨m, hm⟩ : ∃ m, e.size = m + 2 := ⟨e.size - 2, by omega⟩
    have e4 : 128 ≤ (e[m + 1]'(by omega)).toNat := by
      have := e3 (by omega)
      have h2 : e.size - 1 = m + 1 := by omega
      simpa only [h2] using this
    clear hv hv2 e3
    have hm1 : m + 1 < e.size := by omega
    obtain ⟨v, hve⟩ : ∃ v, (e[m + 1]'hm1).toNat = v := ⟨_, rfl⟩
    rw [hve] at e4
    have hvb : (v : Int).toNat.toUInt8.toNat = v := by
      have : v < 256 := by rw [← hve]; exact UInt8.toNat_lt _
      simp
      omega
    have key : ∀ (K : ByteArray), K.size = 3 → (∀ h : 1 < K.size, K[1].toNat = 12) → (∀ h : 2 < K.size, K[2].toNat = 13) → (K.extract 2 3).data.toList = [13] → (K.extract 3 3).data.toList = [] →
        Calls Tryz.prog 96 #[.string K, .int .i32 r] w fun e w' => e = .returned (.int .i64 (-1)) ∧ Below w.heap.size w w' := by
      intro K hKs hK1 hK2 hK3 hK4
      have C2 : Hid (∀ W : World, Calls Tryz.prog 117 #[.string (K.extract 2 3), .int .u8 (v : Int)] W fun e w' => e = .returned (.int .i64 (-1)) ∧ w' = W) := fun W => by
        have := byte_any (K.extract 2 3) v W
        rw [hK3, thirteen_no _ (by rw [hvb]; exact e4)] at this
        exact this
      have C3 : Hid (∀ W : World, Calls Tryz.prog 117 #[.string ByteArray.empty, .int .u8 (v : Int)] W fun e w' => e = .returned (.int .i64 (-1)) ∧ w' = W) := fun W => by
        exact byte_any ByteArray.empty v W
      have b2 : (2 : Int) ≤ (K.size : Int) := by omega
      have b3 : (3 : Int) ≤ (K.size : Int) := by omega
      have n2 : 2 ≤ K.size := by omega
      have n3 : 3 ≤ K.size := by omega
      have wr2 : IntKind.i64.wrap 2 = 2 := rfl
      have wr3 : IntKind.i64.wrap 3 = 3 := rfl
      have k1 := hK1 (by omega)
      have k2 := hK2 (by omega)
      clear hK3 hK4 hvb hK1 hK2
      rcases (show m = 0 ∨ m = 1 ∨ m = 2 by omega) with rfl | rfl | rfl
      · have hsz : (e.size : Int) = 2 := by omega
        have hz : e.size = 2 := by omega
        have x1 : ((12 : Int) != (v : Int)) = true := by rw [bne_iff_ne]; omega
        go_enter Tryz.func96, Tryz.ntmps96
        go_wp2_with fail
        refine (C1.out _).mono ?_
        rintro e w1 ⟨rfl, rfl⟩
        go_wp2_with fail
        go_step3
        go_wp2_with fail
        go_loop [9] (fun i => i = .int .i64 1) (fun _ => 0)
        case atStart => rfl
        case round =>
          obtain rfl := hrel
          go_wp2_with fail
          go_step3
          go_wp2_with fail
          go_quiet (fail)
          go_wp2_with fail
          go_quiet (first | (go_at_call 117; exact (C2.out _).mono fun e w' ⟨h1, h2⟩ => ⟨h1, _, h2⟩))
          go_wp2_with fail
          change bodyPost Tryz.prog Tryz.f96 (fun e w' => e = .returned (.int .i64 (-1)) ∧ Below w.heap.size w w') Exit.ret _ _
          go_ret
          exact ⟨rfl, by first | exact below_drewN (Below.refl _ _) _ | exact below_drewN (below_drewN (Below.refl _ _) _) _⟩
      · have hsz : (e.size : Int) = 3 := by omega
        have hz : e.size = 3 := by omega
        have x1 : ((13 : Int) != (v : Int)) = true := by rw [bne_iff_ne]; omega
        go_enter Tryz.func96, Tryz.ntmps96
        go_wp2_with fail
        refine (C1.out _).mono ?_
        rintro e w1 ⟨rfl, rfl⟩
        go_wp2_with fail
        go_step3
        go_wp2_with fail
        go_loop [9] (fun i => i = .int .i64 2) (fun _ => 0)
        case atStart => rfl
        case round =>
          obtain rfl := hrel
          go_wp2_with fail
          go_step3
          go_wp2_with fail
          go_quiet (fail)
          go_wp2_with fail
          go_quiet (first | (go_at_call 117; exact (C3.out _).mono fun e w' ⟨h1, h2⟩ => ⟨h1, _, h2⟩))
          go_wp2_with fail
          change bodyPost Tryz.prog Tryz.f96 (fun e w' => e = .returned (.int .i64 (-1)) ∧ Below w.heap.size w w') Exit.ret _ _
          go_ret
          exact ⟨rfl, by first | exact below_drewN (Below.refl _ _) _ | exact below_drewN (below_drewN (Below.refl _ _) _) _⟩
      · have hsz : (e.size : Int) = 4 := by omega
        have hz : e.size = 4 := by omega
        go_enter Tryz.func96, Tryz.ntmps96
        go_wp2_with fail
        refine (C1.out _).mono ?_
        rintro e w1 ⟨rfl, rfl⟩
        go_wp2_with fail
        go_step3
        go_wp2_with fail
        go_loop [9] (fun i => i = .int .i64 3) (fun _ => 0)
        case atStart => rfl
        case round =>
          obtain rfl := hrel
          go_wp2_with fail
          go_ret
          exact ⟨rfl, Below.refl _ _⟩
    exact key ⟨#[10, 12, 13]⟩ rfl (fun _ => rfl) (fun _ => rfl) rfl rfl

/-! ### Newlines and runes -/

theorem dec_ascii (s : ByteArray) (p : Nat) (hp : p < s.size) (h : s[p].toNat < 128) : Utf8.decode s p = (s[p].toNat, 1) := by
  have h1 := Lib.decodeL_drop s p
  rw [show s.data.toList.drop p = rest s p from rfl, rest_cons s p hp, Lib.decodeL_N, show (s[p] :: rest s (p + 1)).getD 0 0 = s[p] from rfl, Lib.decodeN_ascii _ _ _ _ _ h] at h1
  exact h1.symm
theorem dec_wide (s : ByteArray) (p : Nat) (hp : p < s.size) (h : 128 ≤ s[p].toNat) : 128 ≤ (Utf8.decode s p).1 := by
  have h1 := Lib.decodeL_drop s p
  rw [show s.data.toList.drop p = rest s p from rfl, rest_cons s p hp, Lib.decodeL_N, show (s[p] :: rest s (p + 1)).getD 0 0 = s[p] from rfl] at h1
  rw [← h1]
  rcases Lib.decodeN_shape (s[p] :: rest s (p + 1)).length s[p].toNat ((s[p] :: rest s (p + 1)).getD 1 0).toNat ((s[p] :: rest s (p + 1)).getD 2 0).toNat ((s[p] :: rest s (p + 1)).getD 3 0).toNat with ⟨c, e⟩ | ⟨p1, p2, p3, cv, e⟩ | ⟨p1, p2, p3, p4, cv, cs, e⟩ | ⟨p1, p2, p3, p4, p5, cv, cw, e⟩ | e
  all_goals rw [e]
  all_goals (dsimp only; omega)
theorem nl_small (b : UInt8) (h : 128 ≤ b.toNat) : nl b = false := by
  cases hb : nl b with
  | false => rfl
  | true =>
    have := (nl_iff b).1 hb
    omega
theorem nl_skip (s : ByteArray) : ∀ (k p : Nat), p + k ≤ s.size → (∀ j (hj : p + j < s.size), j < k → nl s[p + j] = false) → nlEnd (rest s p) = k + nlEnd (rest s (p + k))
  | 0, p, _, _ => by rw [Nat.zero_add]; rfl
  | k + 1, p, hp, h => by
    have h0 := h 0 (by omega) (by omega)
    simp only [Nat.add_zero] at h0
    have ih := nl_skip s k (p + 1) (by omega) (fun j hj hk => by have := h (j + 1) (by omega) (by omega); simpa only [show p + 1 + j = p + (j + 1) by omega] using this)
    rw [rest_cons s p (by omega), nlEnd, if_neg (by rw [h0]; decide), ih, show p + 1 + k = p + (k + 1) by omega]
    omega
theorem nl_rune (s : ByteArray) (p : Nat) (hp : p < s.size) (h : nl s[p] = false) : nlEnd (rest s p) = (Utf8.decode s p).2 + nlEnd (rest s (p + (Utf8.decode s p).2)) := by
  refine nl_skip s _ p (width_fits s p hp) fun j hj hk => ?_
  by_cases h0 : j = 0
  · subst h0
    exact h
  · refine nl_small _ ?_
    have := Plc.rune_inner s p j (by omega) hk
    rw [Plc.bt_in s _ hj] at this
    exact this
/-- What IndexRune answers at a rune of a text: a place just where a newline stands. -/
theorem rune_at (s : ByteArray) (p : Nat) (hp : p < s.size) (w : World) :
    Calls Tryz.prog 96 #[.string ⟨#[10, 12, 13]⟩, .int .i32 (((Utf8.decode s p).1 : Nat) : Int)] w fun e w' => ∃ x : Int, e = .returned (.int .i64 x) ∧ decide (0 ≤ x) = nl s[p] ∧ Below w.heap.size w w' := by
  by_cases h : s[p].toNat < 128
  · rw [dec_ascii s p hp h]
    refine (rune_ascii ((s[p].toNat : Nat) : Int) (by omega) (by omega) w).mono ?_
    rintro e w' ⟨rfl, rfl⟩
    refine ⟨_, rfl, ?_, Below.refl _ _⟩
    have e2 : (((s[p].toNat : Nat) : Int)).toNat.toUInt8 = s[p] := by
      rw [Int.toNat_natCast]
      simp
    rw [e2, Bool.eq_iff_iff, decide_eq_true_iff]
    exact ascii_at s[p]
  · have hw := dec_wide s p hp (by omega)
    rw [nl_small s[p] (by omega)]
    by_cases hb : (Utf8.decode s p).1 = 65533
    · rw [hb]
      refine (rune_bad w).mono ?_
      rintro e w' ⟨rfl, hb⟩
      exact ⟨-1, rfl, rfl, hb⟩
    · refine (rune_far _ (by omega) (by omega) w).mono ?_
      rintro e w' ⟨rfl, hb⟩
      exact ⟨-1, rfl, rfl, hb⟩

/-! ### IndexAny -/

/-- The answer. -/
def idxI (s : ByteArray) : Int := if nlEnd s.data.toList = s.size then -1 else ((nlEnd s.data.toList : Nat) : Int)
theorem idxI_none (s : ByteArray) (h : nlEnd (rest s 0) = s.size) : idxI s = -1 := by
  unfold idxI
  rw [rest_zero] at h
  rw [if_pos h]
theorem idxI_hit (s : ByteArray) (p : Nat) (hp : p < s.size) (h : nlEnd (rest s 0) = p) : idxI s = (p : Int) := by
  unfold idxI
  rw [rest_zero] at h
  rw [if_neg (by omega), h]
theorem use_any (n : Int) (w : World) : Calls Tryz.prog 97 #[.int .i64 n] w fun e w' => e = .returned (.bool (decide (8 < n))) ∧ w = w' :=
  (Any.strings_shouldUseASCIISet Tryz.lays226 n w).mono fun e w' ⟨h1, h2⟩ => ⟨h1, h2.symm⟩

set_option maxRecDepth 1000000 in
set_option maxHeartbeats 8000000 in
theorem idx_short (s : ByteArray) (hs : s.size ≤ 8) (w : World) :
    Calls Tryz.prog 76 #[.string s, .string ⟨#[10, 12, 13]⟩] w fun e w' => e = .returned (.int .i64 (idxI s)) ∧ Below w.heap.size w w' := by
  have C1 : Hid (∀ W : World, Calls Tryz.prog 97 #[.int .i64 (s.size : Int)] W fun e w' => e = .returned (.bool false) ∧ W = w') := fun W => by
    have := use_any (s.size : Int) W
    rw [decide_eq_false (by omega)] at this
    exact this
  obtain ⟨R, hR⟩ : ∃ R, idxI s = R := ⟨_, rfl⟩
  rw [hR]
  have HR := Lib.hid hR
  clear hR
  go_enter Tryz.func76, Tryz.ntmps76
  go_wp2_with fail
  refine (C1.out _).mono ?_
  rintro e w1 ⟨rfl, rfl⟩
  go_wp2_with fail
  go_loopw [] (fun wr => ∃ p : Nat, wr.heap[w.heap.size]? = some (.stringIter s p) ∧ Below w.heap.size w wr ∧ p ≤ s.size ∧ nlEnd (rest s 0) = p + nlEnd (rest s p)) (fun wr => s.size - wr.iterPos w.heap.size)
  case atStart => exact ⟨0, World.iter_heap _ _ _, (Below.refl _ _).alloc (Nat.le_refl _) _, by omega, by omega⟩
  case round =>
    obtain ⟨p, hit, hbw, hp0, hq⟩ := hrel
    have HIT := Lib.hid hit
    have HBW := Lib.hid hbw
    have HQ := Lib.hid hq
    clear hit hbw hq
    by_cases hp : p < s.size
    · obtain ⟨W2, hnx, it2, hb2, hz3, ho2⟩ := Plc.next_in HIT.out HBW.out (Nat.le_refl _) hp
      have IT2 := Lib.hid it2
      have HB2 := Lib.hid hb2
      have HZ := Lib.hid hz3
      clear it2 hb2 ho2 hz3
      have C2 := Lib.hid (rune_at s p hp)
      have hwf := width_fits s p hp
      have hwg := width_ge s p
      have HF := Lib.hid hwf
      have HG := Lib.hid hwg
      have NR := Lib.hid (nl_rune s p hp)
      generalize (Utf8.decode s p).1 = c at *
      generalize (Utf8.decode s p).2 = d at *
      clear hwf hwg
      cases hnl : nl s[p] with
      | true =>
        rw [hnl] at C2
        have hz : Hid (nlEnd (rest s 0) = p) := by
          have := HQ.out
          rw [rest_cons s p hp, nlEnd, if_pos hnl] at this
          exact this
        clear hnl
        go_wp2_with fail
        refine (C2.out _).mono ?_
        rintro e w3 ⟨x, rfl, hx, hb3⟩
        have HB3 := Lib.hid (HB2.out.trans (hb3.mono HB2.out.size))
        clear hb3
        go_wp2_with fail
        go_ret
        rw [← HR.out, idxI_hit s p hp hz.out]
        exact ⟨rfl, HB3.out⟩
      | false =>
        rw [hnl] at C2
        have hz := Lib.hid (NR.out hnl)
        clear hnl
        go_wp2_with fail
        refine (C2.out _).mono ?_
        rintro e w3 ⟨x, rfl, hx, hb3⟩
        have HB3 := Lib.hid (HB2.out.trans (hb3.mono HB2.out.size))
        have IT3 : Hid (w3.heap[w.heap.size]? = some (.stringIter s (p + d))) := (hb3.block _ (lt_of_block IT2.out)).trans IT2.out
        clear hb3
        go_wp2_with fail
        go_roundw
        case rel => exact ⟨p + d, IT3.out, HB3.out, HF.out, by rw [HQ.out, hz.out, Nat.add_assoc]⟩
        case measure => have := HF.out; have := HG.out; rw [Plc.iterPos_of IT3.out, Plc.iterPos_of HIT.out]; omega
    · have hnx : ∀ ty, (Instr.next (.pointer (some ⟨w.heap.size, 0, none⟩)) true ty).run Tryz.prog wr = .ok (.tuple #[.bool false]) wr := fun ty => Lib.run_next_end_at (P := Tryz.prog) wr w.heap.size s p ty HIT.out hp
      have hz : Hid (nlEnd (rest s 0) = s.size) := by
        have := HQ.out
        rw [rest_nil s p (by omega)] at this
        unfold Hid
        rw [this]
        show p + 0 = _
        omega
      go_wp2_with fail
      go_ret
      rw [← HR.out, idxI_none s hz.out]
      exact ⟨rfl, HBW.out⟩

theorem setInfo : (Tryz.prog.info? 136).map (fun i => (i.zero, i.size)) = some (some (.agg (Array.replicate 256 (.bool false))), 256) := by kernel_rfl
theorem in_set (x : UInt8) : ([10, 12, 13] : List UInt8).contains x = nl x := by
  have h := byte_all (fun x => ([10, 12, 13] : List UInt8).contains x == nl x) (by decide +kernel) x
  exact beq_iff_eq.1 h
/-- The set of the three newline bytes, as cells. -/
def setC : Array Value := Lib.setCells [10, 12, 13]
theorem set_any (w : World) : Calls Tryz.prog 98 #[.string ⟨#[10, 12, 13]⟩] w fun e w' => e = .returned (.tuple #[.agg setC, .bool true]) ∧ w' = w.alloc (.cells setC 136) := by
  refine Any.strings_makeASCIISet Tryz.lays227 (zero_of_info setInfo).1 (zero_of_info setInfo).2 ⟨#[10, 12, 13]⟩ w (by decide) ?_
  intro j b hb
  have : ∀ b ∈ ([10, 12, 13] : List UInt8), b.toNat < 128 := by decide
  exact this b (List.mem_of_getElem? hb)
theorem has_any (g : Nat) (x : UInt8) (w : World) (h : w.cell? ⟨g, x.toNat, none⟩ = some (.bool (nl x))) :
    Calls Tryz.prog 99 #[.pointer (some ⟨g, 0, none⟩), .int .u8 ((x.toNat : Nat) : Int)] w fun e w' => e = .returned (.bool (nl x)) ∧ w' = w :=
  Any.asciiSet_contains Tryz.lays228 g x (nl x) w h

set_option maxRecDepth 1000000 in
set_option maxHeartbeats 8000000 in
theorem idx_long (s : ByteArray) (h8 : 8 < s.size) (hs : s.size ≤ 1125899906842624) (w : World) :
    Calls Tryz.prog 76 #[.string s, .string ⟨#[10, 12, 13]⟩] w fun e w' => e = .returned (.int .i64 (idxI s)) ∧ Below w.heap.size w w' := by
  have C1 : Hid (∀ W : World, Calls Tryz.prog 97 #[.int .i64 (s.size : Int)] W fun e w' => e = .returned (.bool true) ∧ W = w') := fun W => by
    have := use_any (s.size : Int) W
    rw [decide_eq_true (by omega)] at this
    exact this
  have hsz : setC.size = 256 := Lib.setCells_size _
  obtain ⟨A, hA⟩ : ∃ A, w.alloc (.cells setC 136) = A := ⟨_, rfl⟩
  have hAs : A.heap.size = w.heap.size + 1 := by rw [← hA, World.size_alloc]
  have hsc : (storeCells ⟨A.heap.size, 0, none⟩ setC.toList 0).run Tryz.prog (A.alloc (.cells Tryz.zeroCells136 136)) = .ok () (A.alloc (.cells setC 136)) := by
    rw [show Tryz.zeroCells136 = Array.replicate 256 (Value.bool false) by kernel_rfl]
    exact run_storeCells_new (P := Tryz.prog) A 136 (Array.replicate 256 (.bool false)) setC (by rw [hsz]; exact (zero_of_info setInfo).2) (by rw [hsz, Array.size_replicate]) (Lib.setCells_one _)
  have hAB : Below w.heap.size w (A.alloc (.cells setC 136)) := by
    rw [← hA]
    exact ((Below.refl _ _).alloc (Nat.le_refl _) _).alloc (by rw [World.size_alloc]; omega) _
  have hc : ∀ x : UInt8, (A.alloc (.cells setC 136)).cell? ⟨A.heap.size, x.toNat, none⟩ = some (.bool (nl x)) := fun x => by
    rw [World.cell?_alloc_at _ _ _ _ (by simp), ← in_set]
    exact Lib.setCells_at _ x
  have HC := Lib.hid hc
  have HAB := Lib.hid hAB
  have HSC := Lib.hid hsc
  obtain ⟨R, hR⟩ : ∃ R, idxI s = R := ⟨_, rfl⟩
  rw [hR]
  have HR := Lib.hid hR
  have C2 := Lib.hid (set_any w)
  rw [hA] at C2
  clear hR hc hAB hA hAs hsc
  go_enter Tryz.func76, Tryz.ntmps76
  go_wp2_with fail
  refine (C1.out _).mono ?_
  rintro e w1 ⟨rfl, rfl⟩
  go_wp2_with fail
  refine C2.out.mono ?_
  rintro e w2 ⟨rfl, rfl⟩
  go_wp2_with fail
  rw [HSC.out]
  simp only [Result.andThen]
  rw [Oper.upon_skip]
  go_wp2_with fail
  go_loopw [8] (fun iv wr => ∃ p : Nat, iv = .int .i64 (p : Int) ∧ wr = w2.alloc (.cells setC 136) ∧ p ≤ s.size ∧ nlEnd (rest s 0) = p + nlEnd (rest s p)) (fun iv _ => s.size - (intOf iv).toNat)
  case atStart => exact ⟨0, rfl, rfl, by omega, by omega⟩
  case round =>
    obtain ⟨p, rfl, rfl, hp0, hq⟩ := hrel
    have HQ := Lib.hid hq
    clear hq
    by_cases hp : p < s.size
    · have C3 := Lib.hid (has_any w2.heap.size s[p] _ (HC.out s[p]))
      cases hnl : nl s[p] with
      | true =>
        rw [hnl] at C3
        have hz : Hid (nlEnd (rest s 0) = p) := by
          have := HQ.out
          rw [rest_cons s p hp, nlEnd, if_pos hnl] at this
          exact this
        clear hnl
        go_wp2_with fail
        refine C3.out.mono ?_
        rintro e w3 ⟨rfl, rfl⟩
        go_wp2_with fail
        go_ret
        rw [← HR.out, idxI_hit s p hp hz.out]
        exact ⟨rfl, HAB.out⟩
      | false =>
        rw [hnl] at C3
        have hz : Hid (nlEnd (rest s p) = nlEnd (rest s (p + 1)) + 1) := by
          unfold Hid
          rw [rest_cons s p hp, nlEnd, if_neg (by rw [hnl]; decide)]
        clear hnl
        go_wp2_with fail
        refine C3.out.mono ?_
        rintro e w3 ⟨rfl, rfl⟩
        go_wp2_with fail
        go_roundw
        case rel => exact ⟨p + 1, by go_num, by first | rfl | trivial, by omega, by rw [HQ.out, hz.out]; omega⟩
        case measure => simp [intOf]; omega
    · obtain rfl : p = s.size := by omega
      have hz : Hid (nlEnd (rest s 0) = s.size) := by
        have := HQ.out
        rw [rest_nil s _ (Nat.le_refl _)] at this
        exact this
      go_wp2_with fail
      go_ret
      rw [← HR.out, idxI_none s hz.out]
      exact ⟨rfl, HAB.out⟩

theorem idx_any (s : ByteArray) (hs : s.size ≤ 1125899906842624) (w : World) :
    Calls Tryz.prog 76 #[.string s, .string ⟨#[10, 12, 13]⟩] w fun e w' => e = .returned (.int .i64 (if nlEnd s.data.toList = s.size then -1 else ((nlEnd s.data.toList : Nat) : Int))) ∧ Below w.heap.size w w' := by
  by_cases h : s.size ≤ 8
  · exact idx_short s h w
  · exact idx_long s (by omega) hs w
end Go.Proofs.YtmgclgojmckfhaaGreatDoor.Not
