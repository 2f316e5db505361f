/-
  The contracts of the library's functions at this program (strings.Builder, HasPrefix, Trim, TrimLeft, ReplaceAll at one byte, Repeat), each the library's own theorem, the numbers put in; and where a row of symbols ends, by glyph.Run and by the document's own Run. Conditions: what a builder holds and gets is below 2^47 bytes; a line is below 2^32 bytes; other strings at most 2^50 bytes.
-/
import Derived.Test.YtcbjcgbfdniieaaDoorShf
import Derived.Test.YtcbjcgbfdniieaaDoorNotKeep
import Derived.Test.YtcbjcgbfdniieaaDoorGlyRunr
import Derived.Test.YtcbjcgbfdniieaaDoorGlyRefn
import Derived.Test.YtcbjcgbfdniieaaDoorPlcTrim
import Derived.Lib.SmallJoins
import Derived.Lib.SplitLaws
import Derived.Deep.Draws
import Derived.Lib.Hide
import Derived.Lib.Strings
import Derived.Handy
import Derived.LoopTactic
import Derived.Laws.RangeAny
namespace Go.Proofs
open Go.Shelf
def Tryd.bld_ren : Go.Shelf.Ren := ⟨fun | 166 => 35 | 167 => 36 | 240 => 53 | 276 => 70 | n => n,
  fun | 0 => 0 | 3 => 3 | 4 => 4 | 5 => 5 | 9 => 9 | 20 => 20 | 37 => 44 | 70 => 43 | 72 => 46 | 75 => 48 | 80 => 52 | 164 => 84 | n => n, fun | n => n⟩
theorem Tryd.bld166 : Go.Proofs.Lays.n166 Tryd.prog Tryd.bld_ren := {
  mixed := by kernel_rfl
  f166 := Tryd.func35.trans (congrArg some (by kernel_rfl))
  f240 := Tryd.func53.trans (congrArg some (by kernel_rfl))
  f276 := Tryd.func70.trans (congrArg some (by kernel_rfl))
  t0 := Tryd.underlying0
  a0 := Tryd.isAgg0
  z0 := Tryd.sizeOf0
  v0 := Tryd.zeroValue0
  t3 := Tryd.underlying3
  a3 := Tryd.isAgg3
  z3 := Tryd.sizeOf3
  v3 := Tryd.zeroValue3
  t4 := Tryd.underlying4
  a4 := Tryd.isAgg4
  z4 := Tryd.sizeOf4
  v4 := Tryd.zeroValue4
  t9 := Tryd.underlying9
  a9 := Tryd.isAgg9
  z9 := Tryd.sizeOf9
  v9 := Tryd.zeroValue9
  t20 := Tryd.underlying20
  a20 := Tryd.isAgg20
  z20 := Tryd.sizeOf20
  v20 := Tryd.zeroValue20
  t37 := Tryd.underlying44
  a37 := Tryd.isAgg44
  z37 := Tryd.sizeOf44
  v37 := Tryd.zeroValue44
  t70 := Tryd.underlying43
  a70 := Tryd.isAgg43
  z70 := Tryd.sizeOf43
  v70 := Tryd.zeroValue43
  t72 := Tryd.underlying46
  a72 := Tryd.isAgg46
  z72 := Tryd.sizeOf46
  v72 := Tryd.zeroValue46
  t75 := Tryd.underlying48
  a75 := Tryd.isAgg48
  z75 := Tryd.sizeOf48
  v75 := Tryd.zeroValue48
  t164 := Tryd.underlying84
  a164 := Tryd.isAgg84
  z164 := Tryd.sizeOf84
  v164 := Tryd.zeroValue84 }
theorem Tryd.bld167 : Go.Proofs.Lays.n167 Tryd.prog Tryd.bld_ren := { Tryd.bld166 with
  f167 := Tryd.func36.trans (congrArg some (by kernel_rfl))
  t5 := Tryd.underlying5
  a5 := Tryd.isAgg5
  z5 := Tryd.sizeOf5
  v5 := Tryd.zeroValue5 }
theorem Tryd.bldX : Builder.Extra Tryd.prog Tryd.bld_ren := {
  sizeBuilder := by kernel_rfl
  liesBuilder := by kernel_rfl
  t5 := Tryd.underlying5
  a5 := Tryd.isAgg5
  z5 := Tryd.sizeOf5
  v5 := Tryd.zeroValue5
  infoByte := by kernel_rfl
  cellsByte := by kernel_rfl
  sizeByte := by kernel_rfl
  neB5 := by decide }
end Go.Proofs
namespace Go.Proofs.YtcbjcgbfdniieaaDoor.Not
open Go.RowKit Gly
open Wrd (rn wd run run_le run_stop run_step wd_pos wd_le)
set_option linter.unusedSimpArgs false
set_option linter.unusedVariables false

/-! ### Builders -/

theorem builder_kept {T e : TypeId} {B b : Nat} {bs : List Value} {w w' : World} (h : Lib.IsBuilderF T e B b bs w)
    (hk : ∀ (k : Nat) (c : Array Value) (t : TypeId) (fz : Nat × Nat), w.heap[k]? = some (Obj.cells c t fz) → (t = T ∨ t = e) → w'.heap[k]? = some (Obj.cells c t fz)) : Lib.IsBuilderF T e B b bs w' := by
  have key : ∀ p, Lib.BuilderAtF T e B b p bs w → Lib.BuilderAtF T e B b p bs w' := by
    rintro p ⟨hB, v, hb, hown, hne⟩
    refine ⟨hB, v, hk _ _ _ _ hb (.inl rfl), ⟨hown.1, ?_⟩, hne⟩
    rcases hown.2 with hn | ⟨g, cap, cur, fz, rfl, h1, h2, h3⟩
    · exact .inl hn
    · exact .inr ⟨g, cap, cur, fz, rfl, h1, hk _ _ _ _ h2 (.inr rfl), h3⟩
  exact h.elim (fun x => .inl (key _ x)) (fun x => .inr (key _ x))
theorem builder_below {T e : TypeId} {B b : Nat} {bs : List Value} {w w' : World} (h : Lib.IsBuilderF T e B b bs w) (hb : Below w.heap.size w w') : Lib.IsBuilderF T e B b bs w' :=
  builder_kept h fun k _ _ _ hk _ => (hb.block k (lt_of_block hk)).trans hk
/-- What a builder holds. -/
def Bld (B b : Nat) (bs : List UInt8) (w : World) : Prop := Lib.IsBuilderF 46 5 B b (Lib.byteCells bs) w
theorem wstr_any (B b : Nat) (bs : List UInt8) (s : ByteArray) (w : World) (h : Bld B b bs w) (hlen : bs.length + s.size ≤ 140737488355328) (hBw : B ≤ w.heap.size) :
    Calls Tryd.prog 35 #[.pointer (some ⟨b, 0, none⟩), .string s] w fun e w' => e = .returned (.tuple #[.int .i64 s.size, .nilIface]) ∧ Bld B b (bs ++ s.data.toList) w' ∧ Below B w w' := by
  refine (Any.Builder_WriteString_k Tryd.bld166 Tryd.bldX B b (Lib.byteCells bs) s w h (by rw [Lib.byteCells_length]; exact hlen) hBw).mono ?_
  rintro e w' ⟨rfl, h1, h2, h3⟩
  refine ⟨rfl, ?_, h2⟩
  unfold Bld
  rw [Lib.byteCells_append, ← Lib.strCells_eq]
  exact .inr h1
theorem wbyte_any (B b : Nat) (bs : List UInt8) (c : UInt8) (w : World) (h : Bld B b bs w) (hlen : bs.length + 1 ≤ 140737488355328) (hBw : B ≤ w.heap.size) :
    Calls Tryd.prog 36 #[.pointer (some ⟨b, 0, none⟩), .int .u8 (c.toNat : Int)] w fun e w' => e = .returned .nilIface ∧ Bld B b (bs ++ [c]) w' ∧ Below B w w' := by
  refine (Any.Builder_WriteByte_k Tryd.bld167 Tryd.bldX B b (Lib.byteCells bs) (c.toNat : Int) w h (by rw [Lib.byteCells_length]; exact hlen) hBw).mono ?_
  rintro e w' ⟨rfl, h1, h2, h3⟩
  refine ⟨rfl, ?_, h2⟩
  unfold Bld
  rw [Lib.byteCells_append]
  exact .inr h1
theorem bstr_any (B b : Nat) (l : List UInt8) (w : World) (h : Bld B b l w) (hBw : B ≤ w.heap.size) :
    Calls Tryd.prog 37 #[.pointer (some ⟨b, 0, none⟩)] w fun e w' => e = .returned (.string ⟨l.toArray⟩) ∧ Below B w w' := by
  refine (Any.Builder_String_any_k Tryd.lays169 Tryd.Builder_Extra_169 B b l w h hBw).mono ?_
  rintro e w' ⟨rfl, _, h2, _⟩
  exact ⟨rfl, h2⟩

theorem Bld.below {B b : Nat} {l : List UInt8} {w w' : World} (h : Bld B b l w) (hb : Below w.heap.size w w') : Bld B b l w' := builder_below h hb

/-! ### The rest of the library -/

theorem prefix_any (s p : ByteArray) (w : World) :
    Calls Tryd.prog 23 #[.string s, .string p] w fun e w' => e = .returned (.bool (Lib.hasPrefix s.data.toList p.data.toList)) ∧ w = w' := by
  refine (Any.strings_HasPrefix Tryd.lays99 s p w).mono ?_
  rintro e w' ⟨rfl, rfl⟩
  exact ⟨rfl, rfl⟩
theorem hasPrefix_opn (L : List UInt8) : Lib.hasPrefix L [123, 45] = opn L := by
  match L with
  | [] => rfl
  | [b] => simp [Lib.hasPrefix, opn, List.isPrefixOf]
  | b :: c :: r =>
    simp only [Lib.hasPrefix, opn, List.isPrefixOf, Bool.and_true]
    rw [show ((123 : UInt8) == b) = (b == 123) from Bool.beq_comm, show ((45 : UInt8) == c) = (c == 45) from Bool.beq_comm]
theorem opn_any (s : ByteArray) (w : World) :
    Calls Tryd.prog 23 #[.string s, .string ⟨#[123, 45]⟩] w fun e w' => e = .returned (.bool (opn s.data.toList)) ∧ w = w' := by
  have h := prefix_any s ⟨#[123, 45]⟩ w
  rw [show (⟨#[123, 45]⟩ : ByteArray).data.toList = [123, 45] from rfl, hasPrefix_opn] at h
  exact h
theorem trimDash_any (s : ByteArray) (hs : s.size ≤ 1125899906842624) (w : World) :
    Calls Tryd.prog 55 #[.string s, .string ⟨#[45]⟩] w fun e w' => e = .returned (.string ⟨(Lib.trimB s.data.toList 45).toArray⟩) ∧ Below w.heap.size w w' := by
  refine (Any.strings_Trim_one Tryd.lays160 s 45 (by decide) w (by omega)).mono ?_
  rintro e w' ⟨rfl, h⟩
  refine ⟨rfl, ?_⟩
  rcases h with rfl | rfl
  · exact Below.refl _ _
  · exact ⟨rfl, rfl, rfl, Nat.le_refl _, fun _ _ => rfl⟩
theorem drop_nil (p : UInt8 → Bool) : ∀ (l : List UInt8), l.dropWhile p = [] ↔ ∀ b ∈ l, p b = true
  | [] => ⟨fun _ _ h => (nomatch h), fun _ => rfl⟩
  | c :: l => by
    rw [List.dropWhile_cons]
    split
    · rename_i h
      rw [drop_nil p l]
      constructor
      · intro q b hb
        rcases List.mem_cons.1 hb with rfl | hb
        · exact h
        · exact q b hb
      · exact fun q b hb => q b (List.mem_cons_of_mem _ hb)
    · rename_i h
      exact ⟨fun q => (nomatch q), fun q => absurd (q c (List.mem_cons_self ..)) h⟩
theorem take_all (p : UInt8 → Bool) : ∀ (l : List UInt8), ∀ b ∈ l.takeWhile p, p b = true
  | [], _, h => by simp at h
  | c :: l, b, h => by
    rw [List.takeWhile_cons] at h
    split at h
    · rename_i hc
      rcases List.mem_cons.1 h with rfl | h
      · exact hc
      · exact take_all p l b h
    · exact (nomatch h)
theorem trimB_dash (l : List UInt8) : Lib.trimB l 45 = [] ↔ ∀ b ∈ l, b = 45 := by
  unfold Lib.trimB Lib.trimLeftB Lib.trimRightB
  rw [drop_nil]
  constructor
  · intro h b hb
    by_cases hr : b ∈ (l.reverse.dropWhile (· == 45)).reverse
    · exact beq_iff_eq.1 (h b hr)
    · have hb2 : b ∈ l.reverse := List.mem_reverse.2 hb
      rw [← List.takeWhile_append_dropWhile (p := (· == 45)) (l := l.reverse)] at hb2
      rcases List.mem_append.1 hb2 with h2 | h2
      · exact beq_iff_eq.1 (take_all _ _ b h2)
      · exact absurd (List.mem_reverse.2 h2) hr
  · intro h b hb
    exact beq_iff_eq.2 (h b (List.mem_reverse.1 ((List.dropWhile_sublist _).mem (List.mem_reverse.1 hb))))
theorem trimLeft_any (s : ByteArray) (w : World) :
    Calls Tryd.prog 47 #[.string s, .string ⟨#[32]⟩] w fun e w' => e = .returned (.string ⟨(trimL s.data.toList).toArray⟩) ∧ w = w' :=
  (Any.strings_TrimLeft_one Tryd.lays161 s 32 (by decide) w).mono fun e w' ⟨h1, h2⟩ => ⟨h1, h2.symm⟩

/-- Some variable of the library's own holds some number. -/
def Mx (w : World) : Prop := ∃ m, w.cell? ⟨Tryd.lays155_ren.g 1, 0, none⟩ = some (.int .i64 m)
theorem Mx.below {w w' : World} {B : Nat} (h : Mx w) (hb : Below B w w') (hB : w.heap.size ≤ B) : Mx w' := by
  obtain ⟨m, hm⟩ := h
  exact ⟨m, by rw [hb.cell (Nat.lt_of_lt_of_le (World.block_lt_of_cell? _ _ hm) hB)]; exact hm⟩
theorem Mx.of_shape {w : World} (h : w.ShapedOpen Tryd.prog) : Mx w := Tryd.laysM138.s1_3 w h
theorem replaceK_one (c : UInt8) (hc : c ≠ 32) : ∀ (L : List UInt8) (k : Nat), Lib.count L [c] ≤ k → Lib.replaceK [c] [32] k L = L.map (fun b => if b = c then 32 else b)
  | [], k, _ => by
    cases k with
    | zero => rfl
    | succ k => simp [Lib.replaceK, Lib.index]
  | b :: l, k, h => by
    by_cases hb : b = c
    · subst hb
      rw [Lib.count_cons_eq] at h
      obtain ⟨k, rfl⟩ : ∃ j, k = j + 1 := ⟨k - 1, by omega⟩
      have hi : Lib.index (b :: l) [b] = ((0 : Nat) : Int) := by simp [Lib.index]
      rw [Lib.replaceK_hit _ _ k _ 0 hi, List.map_cons, if_pos rfl, ← replaceK_one b hc l k (by omega)]
      rfl
    · rw [Lib.count_cons_ne b c l hb] at h
      rw [List.map_cons, if_neg hb, ← replaceK_one c hc l k h]
      cases k with
      | zero => rfl
      | succ k =>
        have hx : Lib.index (b :: l) [c] = if Lib.index l [c] == -1 then -1 else Lib.index l [c] + 1 := by
          rw [Lib.index, if_neg]
          simp only [List.isPrefixOf, Bool.and_true]
          intro e
          exact hb (beq_iff_eq.1 e).symm
        by_cases hn : Lib.index l [c] = -1
        · rw [Lib.replaceK, Lib.replaceK, hx, hn]
          rfl
        · have hge := Lib.index_ge l [c]
          obtain ⟨i, hi⟩ := Int.eq_ofNat_of_zero_le (a := Lib.index l [c]) (by omega)
          have hx2 : Lib.index (b :: l) [c] = ((i + 1 : Nat) : Int) := by
            rw [hx, if_neg (by simpa using hn), hi]
            rfl
          rw [Lib.replaceK_hit _ _ k _ _ hi, Lib.replaceK_hit _ _ k _ _ hx2]
          rw [List.take_succ_cons, Nat.add_right_comm, List.drop_succ_cons]
          rfl
theorem replaceAll_one (c : UInt8) (hc : c ≠ 32) (L : List UInt8) : Lib.replaceAll L [c] [32] = L.map (fun b => if b = c then 32 else b) := by
  unfold Lib.replaceAll Lib.replace
  rw [if_neg (by simpa using hc)]
  apply replaceK_one c hc
  unfold Lib.replaceNum
  rw [if_pos (.inl (by decide))]
  exact Nat.le_refl _
theorem repl_any (c : UInt8) (hc : c ≠ 32) (s : ByteArray) (hs : s.size < 4294967281) (w : World) (hm : Mx w) :
    Calls Tryd.prog 46 #[.string s, .string ⟨#[c]⟩, .string ⟨#[32]⟩] w fun e w' => e = .returned (.string ⟨(s.data.toList.map (fun b => if b = c then 32 else b)).toArray⟩) ∧ Below w.heap.size w w' := by
  obtain ⟨m, hm⟩ := hm
  have hle := Lib.countB_mul_le ⟨#[c]⟩ (Nat.le_refl 1) s.size s (Nat.le_refl _)
  have h1 : (⟨#[c]⟩ : ByteArray).size = 1 := rfl
  have h2 : (⟨#[32]⟩ : ByteArray).size = 1 := rfl
  rw [h1] at hle
  have h := Any.strings_ReplaceAll Tryd.lays155 Tryd.Builder_Extra_155 s ⟨#[c]⟩ ⟨#[32]⟩ m w hs hm (Nat.le_refl 1) (by rw [h2]; omega)
  rw [show (⟨#[c]⟩ : ByteArray).data.toList = [c] from rfl, show (⟨#[32]⟩ : ByteArray).data.toList = [32] from rfl, replaceAll_one c hc] at h
  exact h
theorem repeat_any (n : Nat) (hn : n ≤ 1048576) (w : World) :
    Calls Tryd.prog 34 #[.string ⟨#[32]⟩, .int .i64 (n : Int)] w fun e w' => e = .returned (.string ⟨(List.replicate n 32).toArray⟩) ∧ Below w.heap.size w w' := by
  have h := Any.strings_Repeat Tryd.lays105 Tryd.Builder_Extra_105 ⟨#[32]⟩ n w (by omega) (by have : (⟨#[32]⟩ : ByteArray).size = 1 := rfl; rw [this]; omega)
  have e : ∀ k, Lib.repeatL (⟨#[32]⟩ : ByteArray).data.toList k = List.replicate k 32 := by
    intro k
    induction k with
    | zero => rfl
    | succ k ih =>
      rw [Lib.repeatL, ih]
      rfl
  rw [e] at h
  exact h

/-! ### What is left of a string, and its symbols -/

/-- What is left of a string from byte n on. -/
def rest (s : ByteArray) (n : Nat) : List UInt8 := s.data.toList.drop n
theorem rest_len (s : ByteArray) (n : Nat) : (rest s n).length = s.size - n := by unfold rest; rw [List.length_drop, ← Lib.size_eq]
theorem rest_ne (s : ByteArray) (n : Nat) (h : n < s.size) : rest s n ≠ [] := by
  intro e
  have := rest_len s n
  rw [e] at this
  simp at this
  omega
theorem rest_nil (s : ByteArray) (n : Nat) (h : s.size ≤ n) : rest s n = [] := List.eq_nil_of_length_eq_zero (by rw [rest_len]; omega)
theorem rest_drop (s : ByteArray) (n k : Nat) : (rest s n).drop k = rest s (n + k) := by unfold rest; rw [List.drop_drop]
theorem rest_zero (s : ByteArray) : rest s 0 = s.data.toList := rfl
theorem rest_cons (s : ByteArray) (n : Nat) (h : n < s.size) : rest s n = s[n] :: rest s (n + 1) := by
  have hl := Lib.size_eq s
  unfold rest
  rw [List.drop_eq_getElem_cons (by omega)]
  rfl
theorem tail_rest (s : ByteArray) (n : Nat) : (s.extract n s.size).data.toList = rest s n := Lib.extract_to_end s n
theorem piece_rest (s : ByteArray) (n k : Nat) : (s.extract n (n + k)).data.toList = (rest s n).take k := by
  rw [Lib.extract_data, Nat.add_sub_cancel_left]
  rfl
theorem rn_rest (s : ByteArray) (n : Nat) : rn (rest s n) = (((Utf8.decode s n).1 : Nat) : Int) := by unfold Wrd.rn rest; rw [Lib.decodeL_drop]
theorem wd_rest (s : ByteArray) (n : Nat) : wd (rest s n) = (Utf8.decode s n).2 := by unfold Wrd.wd rest; rw [Lib.decodeL_drop]
theorem runeAt_rest (s : ByteArray) (n : Nat) (h : n < s.size) : runeAt s (n : Int) = (rn (rest s n), ((wd (rest s n) : Nat) : Int)) := by rw [runeAt_in s n h, rn_rest, wd_rest]
theorem below_drewN {B : Nat} {a w : World} (h : Below B a w) (n : Nat) : Below B a (w.drewN n) := ⟨h.os, h.tape, h.output, h.size, h.block⟩
theorem bytes_ext {a b : ByteArray} (h : a.data.toList = b.data.toList) : a = b := by
  apply ByteArray.ext
  exact Array.toList_inj.1 h

theorem sym_of (c : Int) (h : classI c = 5) : symP c = true := by
  unfold symP
  rw [h]
  rfl
theorem runEnd_rest (s : ByteArray) : ∀ (f n : Nat), s.size ≤ n + f → n ≤ s.size → runEnd s 5 f n = n + run symP (rest s n)
  | 0, n, hf, hn => by
    rw [run_stop symP (rest s n) (.inl (rest_nil s _ (by omega)))]
    unfold runEnd
    omega
  | f + 1, n, hf, hn => by
    by_cases h : n < s.size
    · have hw := width_ge s n
      have hx := width_fits s n h
      unfold runEnd
      rw [if_pos h]
      by_cases c : classI (((Utf8.decode s n).1 : Nat) : Int) = 5
      · rw [if_pos c, runEnd_rest s f _ (by omega) hx, run_step symP (rest s n) (rest_ne s n h) (by rw [rn_rest]; exact sym_of _ c), wd_rest, rest_drop, Nat.add_assoc]
      · rw [if_neg c, run_stop symP (rest s n) (.inr (by rw [rn_rest]; unfold symP; simpa using c))]
        rfl
    · rw [runEnd_end s 5 (f + 1) n h, run_stop symP (rest s n) (.inl (rest_nil s _ (by omega)))]
      omega
theorem runI_rest (s : ByteArray) (n : Nat) (hn : n ≤ s.size) : runI s (n : Int) 5 = ((n + run symP (rest s n) : Nat) : Int) := by
  unfold runI
  rw [if_neg (by omega), Int.toNat_natCast, runEnd_rest s _ _ (by omega) hn]
theorem symbols_any (s : ByteArray) (n : Nat) (hs : s.size ≤ 1125899906842624) (hn : n ≤ s.size) (w : World) :
    Calls Tryd.prog 40 #[.string s, .int .i64 (n : Int), .int .i64 5] w fun e w' => e = .returned (.int .i64 ((n + run symP (rest s n) : Nat) : Int)) ∧ Below w.heap.size w w' := by
  have := run_any s (n : Int) 5 (by unfold maxLen; omega) w
  rw [runI_rest s n hn] at this
  exact this

theorem refrun_any (s : ByteArray) (n : Nat) (hs : s.size ≤ 1125899906842624) (hn : n ≤ s.size) (w : World) :
    Calls Tryd.prog 27 #[.string s, .int .i64 (n : Int), .int .i64 5] w fun e w' => e = .returned (.int .i64 ((n + run symP (rest s n) : Nat) : Int)) ∧ w = w' := by
  have b1 : decide ((n : Int) < 0) = false := decide_eq_false (by omega)
  have b2 : decide (s.size < n) = false := decide_eq_false (by omega)
  go_enter Tryd.func27, Tryd.ntmps27
  go_wp2
  go_loop [1, 6] (fun i _ => ∃ (p : Nat), i = .int .i64 (p : Int) ∧ p ≤ s.size ∧ p + run symP (rest s p) = n + run symP (rest s n)) (fun i _ => s.size - (intOf i).toNat)
  case atStart => exact ⟨n, rfl, hn, rfl⟩
  case round =>
    obtain ⟨p, rfl, hp0, hq⟩ := hrel
    have HQ := Lib.hid hq
    clear hq
    by_cases hp : p < s.size
    · have c1 := fun W => refnext_any s p hs W
      rw [runeAt_rest s p hp] at c1
      dsimp only at c1
      have hw := wd_pos (rest s p)
      have hx := wd_le (rest s p) (rest_ne s p hp)
      have hl := rest_len s p
      have hst := run_step symP (rest s p) (rest_ne s p hp)
      rw [rest_drop] at hst
      have hsp := run_stop symP (rest s p)
      have hsy : symP (rn (rest s p)) = (classI (rn (rest s p)) == 5) := rfl
      generalize rn (rest s p) = c at *
      generalize wd (rest s p) = d at *
      have c2 := fun W => refclass_any c W
      generalize classI c = k at *
      have C1 := Lib.hid c1
      have C2 := Lib.hid c2
      have HST := Lib.hid hst
      have HSP := Lib.hid hsp
      clear c1 c2 hst hsp
      by_cases h : k = 5
      · have E : Hid (symP c = true) := by unfold Hid; rw [hsy, h]; rfl
        have b3 : (k != 5) = false := by rw [bne_eq_false_iff_eq]; exact h
        clear hsy h
        go_wp2_with fail
        refine (C1.out _).mono ?_
        rintro e w1 ⟨rfl, rfl⟩
        go_wp2_with fail
        refine (C2.out _).mono ?_
        rintro e w1 ⟨rfl, rfl⟩
        go_wp2_with fail
        go_round
        case rel => exact ⟨p + d, by go_num, by omega, by rw [← HQ.out, HST.out E.out, Nat.add_assoc]⟩
        case measure => simp [intOf]; omega
      · have E : Hid (symP c = false) := by unfold Hid; rw [hsy, beq_eq_false_iff_ne]; exact h
        have b3 : (k != 5) = true := by rw [bne_iff_ne]; exact h
        clear hsy h
        go_wp2_with fail
        refine (C1.out _).mono ?_
        rintro e w1 ⟨rfl, rfl⟩
        go_wp2_with fail
        refine (C2.out _).mono ?_
        rintro e w1 ⟨rfl, rfl⟩
        go_wp2_with fail
        go_ret
        refine ⟨?_, rfl⟩
        have := HQ.out
        rw [HSP.out (.inr E.out), Nat.add_zero] at this
        rw [← this]
        rfl
    · go_wp2_with fail
      go_ret
      obtain rfl : p = s.size := by omega
      refine ⟨?_, rfl⟩
      have := HQ.out
      rw [run_stop symP (rest s s.size) (.inl (rest_nil s _ (Nat.le_refl _))), Nat.add_zero] at this
      first | (rw [← this]; rfl) | (rw [← Int.natCast_add, ← this]; rfl)

end Go.Proofs.YtcbjcgbfdniieaaDoor.Not
