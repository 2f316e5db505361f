/-
  Trees: a row of trees as first tree and rest; how many, how deep, which leaves; their texts, and what is read of a text. No program is run here.
-/
import Derived.Test.YtmgclgojmckfhaaZTk
import Derived.Deep.QuietTactic
import Derived.BigQuiet
import Derived.Deep.RegionWith
import Derived.Deep.RegionHeld3
import Derived.Deep.Cut
import Derived.Lib.AppendStr
import Derived.Lib.BufferRead
import Derived.ArgAppend
import Derived.Deep.AppendLies
import Derived.StillTailTactics
import Derived.Deep.RegionLaw
import Derived.Deep.TreeCalls
import Derived.Below
namespace Go.Proofs.Ytmgclgojmckfhaa.Tre
open Tks Go.RowKit
set_option linter.unusedSimpArgs false
set_option linter.unusedVariables false

/-- A node without its kids. -/
structure Hd where
  kind : Int
  form : Int
  text : ByteArray
  line : Int
  col : Int
/-- A row of trees. -/
inductive Fo where
  | nil : Fo
  | cons : Hd → Fo → Fo → Fo
def len : Fo → Nat
  | .nil => 0
  | .cons _ _ r => len r + 1
/-- The row from a place on. -/
def dropF : Nat → Fo → Fo
  | 0, f => f
  | _ + 1, .nil => .nil
  | n + 1, .cons _ _ r => dropF n r
theorem dropF_nil (n : Nat) : dropF n .nil = .nil := by cases n <;> rfl
theorem len_drop : ∀ (n : Nat) (f : Fo), len (dropF n f) = len f - n
  | 0, f => by cases f <;> rfl
  | n + 1, .nil => by simp [dropF, len]
  | n + 1, .cons h k r => by
    show len (dropF n r) = len r + 1 - (n + 1)
    rw [len_drop n r]
    omega
theorem drop_cons : ∀ (n : Nat) (f : Fo), n < len f → ∃ h k, dropF n f = .cons h k (dropF (n + 1) f)
  | 0, .nil, hn => absurd hn (by decide)
  | 0, .cons h k r, _ => ⟨h, k, by cases r <;> rfl⟩
  | n + 1, .nil, hn => absurd hn (by simp [len])
  | n + 1, .cons h k r, hn => drop_cons n r (by simp [len] at hn; omega)
theorem drop_len : ∀ f : Fo, dropF (len f) f = .nil
  | .nil => rfl
  | .cons h k r => drop_len r
/-- What holds of each tree of a row, whatever the row: by what holds of its kids. -/
inductive MemF (h : Hd) (k : Fo) : Fo → Prop where
  | head (r : Fo) : MemF h k (.cons h k r)
  | tail (h' : Hd) (k' r : Fo) : MemF h k r → MemF h k (.cons h' k' r)
theorem mem_drop {h : Hd} {k r : Fo} : ∀ (n : Nat) (f : Fo), dropF n f = .cons h k r → MemF h k f
  | 0, f, e => by
    have e : f = .cons h k r := by cases f <;> exact e
    subst e
    exact .head r
  | n + 1, .nil, e => by cases e
  | n + 1, .cons h' k' r', e => .tail h' k' r' (mem_drop n r' e)
theorem each_tree {P : Hd → Fo → Prop} (step : ∀ h k, (∀ h' k', MemF h' k' k → P h' k') → P h k) : ∀ f : Fo, ∀ h k, MemF h k f → P h k
  | .nil, h, k, m => by cases m
  | .cons h' k' r', h, k, m => by
    cases m with
    | head => exact step _ _ (each_tree step _)
    | tail _ _ _ m => exact each_tree step r' h k m
theorem all_trees {P : Hd → Fo → Prop} (step : ∀ h k, (∀ h' k', MemF h' k' k → P h' k') → P h k) (h : Hd) (k : Fo) : P h k := each_tree step (.cons h k .nil) h k (.head _)

/-- What counts of a node. -/
def sameH (a b : Hd) : Bool := a.kind == b.kind && (a.form == b.form && a.text.data.toList == b.text.data.toList)
def sameF : Fo → Fo → Bool
  | .nil, .nil => true
  | .cons a k r, .cons b l q => (sameH a b && sameF k l) && sameF r q
  | _, _ => false
def sizeF : Fo → Nat
  | .nil => 0
  | .cons _ k r => 1 + sizeF k + sizeF r
def deepF : Fo → Nat
  | .nil => 0
  | .cons _ k r => max (1 + deepF k) (deepF r)
def tokH (h : Hd) : Tk := ⟨h.form, h.text, h.line, h.col⟩
def leavesF : Fo → List Tk
  | .nil => []
  | .cons h k r => (if h.kind = 1 then [tokH h] else leavesF k) ++ leavesF r
theorem sameF_len : ∀ {a b : Fo}, sameF a b = true → len a = len b
  | .nil, .nil, _ => rfl
  | .nil, .cons _ _ _, h => by cases h
  | .cons _ _ _, .nil, h => by cases h
  | .cons a k r, .cons b l q, h => by
    simp only [sameF, Bool.and_eq_true] at h
    simp only [len]
    rw [sameF_len h.2]
theorem sameH_self (a : Hd) : sameH a a = true := by simp [sameH]
theorem sameF_self : ∀ a : Fo, sameF a a = true
  | .nil => rfl
  | .cons h k r => by simp [sameF, sameH_self, sameF_self k, sameF_self r]
theorem deep_le_size : ∀ f : Fo, deepF f ≤ sizeF f
  | .nil => Nat.le_refl _
  | .cons h k r => by
    have := deep_le_size k
    have := deep_le_size r
    simp only [deepF, sizeF]
    omega
theorem len_le_size : ∀ f : Fo, len f ≤ sizeF f
  | .nil => Nat.le_refl _
  | .cons h k r => by
    have := len_le_size r
    simp only [len, sizeF]
    omega
end Go.Proofs.Ytmgclgojmckfhaa.Tre
/-
  The texts of trees, and what is read of a text: numbers, quoted texts. No program is run here.
-/
namespace Go.Proofs.Ytmgclgojmckfhaa.Tre
open Tks Go.RowKit
set_option linter.unusedSimpArgs false
set_option linter.unusedVariables false

def byte (n : Nat) : UInt8 := UInt8.ofNat n
theorem byte_nat (n : Nat) (h : n < 256) : (byte n).toNat = n := by
  unfold byte
  rw [UInt8.toNat_ofNat']
  omega
theorem byte_eq {c : UInt8} {n : Nat} (h : c.toNat = n) : c = byte n := by
  subst h
  unfold byte
  exact (UInt8.ofNat_toNat).symm
theorem byte_toNat (c : UInt8) : byte c.toNat = c := (byte_eq rfl).symm
theorem nat_lt (c : UInt8) : c.toNat < 256 := c.toNat_lt
/-- A number of at most two digits. -/
def digL (n : Nat) : List UInt8 := if n < 10 then [byte (48 + n)] else [byte (48 + n / 10), byte (48 + n % 10)]
def isDig (c : UInt8) : Bool := decide (48 ≤ c.toNat) && decide (c.toNat ≤ 57)
def digs : Nat → List UInt8 → List UInt8
  | 0, _ => []
  | _ + 1, [] => []
  | n + 1, c :: r => if isDig c = true then c :: digs n r else []
def valL : Nat → List UInt8 → Nat
  | v, [] => v
  | v, c :: r => valL (v * 10 + (c.toNat - 48)) r
/-- The number that begins there (-1: none), and how many bytes it has. -/
def numL (l : List UInt8) : Int := if digs 3 l = [] ∨ ((digs 3 l).head? = some (byte 48) ∧ 1 < (digs 3 l).length) then -1 else (valL 0 (digs 3 l) : Int)
def numE (l : List UInt8) : Nat := (digs 3 l).length
theorem digs_take : ∀ (n : Nat) (l : List UInt8), l = digs n l ++ l.drop (digs n l).length
  | 0, l => by simp [digs]
  | n + 1, [] => by simp [digs]
  | n + 1, c :: r => by
    unfold digs
    split
    · rw [List.length_cons, List.drop_succ_cons, List.cons_append, ← digs_take n r]
    · simp
theorem digs_le : ∀ (n : Nat) (l : List UInt8), (digs n l).length ≤ n
  | 0, l => by simp [digs]
  | n + 1, [] => by simp [digs]
  | n + 1, c :: r => by
    unfold digs
    split
    · rw [List.length_cons]
      have := digs_le n r
      omega
    · simp
theorem digs_len (n : Nat) (l : List UInt8) : (digs n l).length ≤ l.length := by
  have := congrArg List.length (digs_take n l)
  rw [List.length_append] at this
  omega
theorem digs_all : ∀ (n : Nat) (l : List UInt8), ∀ c ∈ digs n l, isDig c = true
  | 0, l, c, h => by simp [digs] at h
  | n + 1, [], c, h => by simp [digs] at h
  | n + 1, d :: r, c, h => by
    unfold digs at h
    split at h
    · rename_i hd
      rcases List.mem_cons.1 h with rfl | h
      · exact hd
      · exact digs_all n r c h
    · cases h
/-- No digit stands there. -/
def NoDig (l : List UInt8) : Prop := ∀ c r, l = c :: r → isDig c = false
theorem digs_no (n : Nat) {l : List UInt8} (h : NoDig l) : digs n l = [] := by
  cases n with
  | zero => rfl
  | succ n =>
    cases l with
    | nil => rfl
    | cons c r =>
      unfold digs
      rw [if_neg (by rw [h c r rfl]; decide)]
theorem isDig_byte (n : Nat) (h : n < 10) : isDig (byte (48 + n)) = true := by
  unfold isDig
  rw [byte_nat _ (by omega), decide_eq_true (by omega), decide_eq_true (by omega)]
  rfl
theorem isDig_off {c : UInt8} (h : isDig c = true) : ∃ n, n < 10 ∧ c = byte (48 + n) := by
  unfold isDig at h
  simp only [Bool.and_eq_true, decide_eq_true_eq] at h
  exact ⟨c.toNat - 48, by omega, by rw [show 48 + (c.toNat - 48) = c.toNat from by omega]; exact (byte_toNat c).symm⟩
theorem byte_inj {a b : Nat} (ha : a < 256) (hb : b < 256) (h : byte a = byte b) : a = b := by
  rw [← byte_nat a ha, ← byte_nat b hb, h]
/-- What is written as a number is read as it. -/
theorem num_dig (n : Nat) (hn : n < 100) (r : List UInt8) (hr : NoDig r) : numL (digL n ++ r) = (n : Int) ∧ numE (digL n ++ r) = (digL n).length := by
  have hd : digs 3 (digL n ++ r) = digL n := by
    unfold digL
    split
    · rename_i h
      simp only [List.cons_append, List.nil_append, digs]
      rw [if_pos (isDig_byte n h), digs_no 2 hr]
    · simp only [List.cons_append, List.nil_append, digs]
      rw [if_pos (isDig_byte (n / 10) (by omega)), if_pos (isDig_byte (n % 10) (by omega)), digs_no 1 hr]
  refine ⟨?_, by unfold numE; rw [hd]⟩
  unfold numL
  rw [hd]
  unfold digL
  split
  · rename_i h
    have e : (byte (48 + n)).toNat = 48 + n := byte_nat _ (by omega)
    rw [if_neg (fun q => q.elim (fun q => List.cons_ne_nil _ _ q) (fun q => absurd q.2 (Nat.lt_irrefl 1)))]
    show ((0 * 10 + ((byte (48 + n)).toNat - 48) : Nat) : Int) = (n : Int)
    rw [e]
    omega
  · rename_i h
    have e1 : (byte (48 + n / 10)).toNat = 48 + n / 10 := byte_nat _ (by omega)
    have e2 : (byte (48 + n % 10)).toNat = 48 + n % 10 := byte_nat _ (by omega)
    rw [if_neg]
    · show ((((0 * 10 + ((byte (48 + n / 10)).toNat - 48)) * 10 + ((byte (48 + n % 10)).toNat - 48) : Nat)) : Int) = (n : Int)
      rw [e1, e2]
      omega
    · rintro (q | ⟨q, -⟩)
      · cases q
      · simp only [List.head?_cons, Option.some.injEq] at q
        have := byte_inj (by omega) (by omega) q
        omega
/-- What is read as a number is written so. -/
theorem dig_num (l : List UInt8) (n : Nat) (hn : n < 100) (h : numL l = (n : Int)) : digs 3 l = digL n := by
  unfold numL at h
  split at h
  · omega
  · rename_i hq
    have hle := digs_le 3 l
    have hall := digs_all 3 l
    generalize digs 3 l = d at *
    match d, hle, hall, hq, h with
    | [], _, _, hq, _ => exact absurd (.inl rfl) hq
    | [a], _, hall, _, h =>
      obtain ⟨x, hx, ea⟩ := isDig_off (hall a (List.mem_cons_self ..))
      have e1 : a.toNat = 48 + x := by rw [ea]; exact byte_nat _ (by omega)
      have h : ((0 * 10 + (a.toNat - 48) : Nat) : Int) = (n : Int) := h
      rw [e1] at h
      have e : x = n := by omega
      unfold digL
      rw [if_pos (by omega), ea, e]
    | [a, b], _, hall, hq, h =>
      obtain ⟨x, hx, ea⟩ := isDig_off (hall a (List.mem_cons_self ..))
      obtain ⟨y, hy, eb⟩ := isDig_off (hall b (List.mem_cons_of_mem _ (List.mem_cons_self ..)))
      have hx0 : x ≠ 0 := fun e => hq (.inr ⟨by rw [ea, e]; rfl, Nat.lt_succ_self 1⟩)
      have e1 : a.toNat = 48 + x := by rw [ea]; exact byte_nat _ (by omega)
      have e2 : b.toNat = 48 + y := by rw [eb]; exact byte_nat _ (by omega)
      have h : (((0 * 10 + (a.toNat - 48)) * 10 + (b.toNat - 48) : Nat) : Int) = (n : Int) := h
      rw [e1, e2] at h
      have e : n = x * 10 + y := by omega
      unfold digL
      rw [if_neg (by omega), show n / 10 = x from by omega, show n % 10 = y from by omega, ea, eb]
    | [a, b, c], _, hall, hq, h =>
      obtain ⟨x, hx, ea⟩ := isDig_off (hall a (List.mem_cons_self ..))
      obtain ⟨y, hy, eb⟩ := isDig_off (hall b (List.mem_cons_of_mem _ (List.mem_cons_self ..)))
      obtain ⟨z, hz, ec⟩ := isDig_off (hall c (List.mem_cons_of_mem _ (List.mem_cons_of_mem _ (List.mem_cons_self ..))))
      have hx0 : x ≠ 0 := fun e => hq (.inr ⟨by rw [ea, e]; rfl, by show 1 < 3; omega⟩)
      have e1 : a.toNat = 48 + x := by rw [ea]; exact byte_nat _ (by omega)
      have e2 : b.toNat = 48 + y := by rw [eb]; exact byte_nat _ (by omega)
      have e3 : c.toNat = 48 + z := by rw [ec]; exact byte_nat _ (by omega)
      have h : ((((0 * 10 + (a.toNat - 48)) * 10 + (b.toNat - 48)) * 10 + (c.toNat - 48) : Nat) : Int) = (n : Int) := h
      rw [e1, e2, e3] at h
      omega
    | a :: b :: c :: d :: r, hle, _, _, _ => exact absurd hle (by show ¬ (r.length + 4 ≤ 3); omega)
/-- A half of a byte that is written as a digit; 16: it is none. -/
def halfL (c : UInt8) : Nat := if isDig c = true then c.toNat - 48 else if 97 ≤ c.toNat ∧ c.toNat ≤ 102 then c.toNat - 87 else 16
def hexD (n : Nat) : UInt8 := if n < 10 then byte (48 + n) else byte (87 + n)
theorem half_hex (n : Nat) (h : n < 16) : halfL (hexD n) = n := by
  unfold hexD halfL
  split
  · rename_i q
    rw [if_pos (isDig_byte n q), byte_nat _ (by omega)]
    omega
  · have e : (byte (87 + n)).toNat = 87 + n := byte_nat _ (by omega)
    have : isDig (byte (87 + n)) = false := by
      unfold isDig
      rw [e, decide_eq_true (by omega), decide_eq_false (by omega)]
      rfl
    rw [this, if_neg (by decide), e, if_pos ⟨by omega, by omega⟩]
    omega
theorem hex_half (c : UInt8) (h : halfL c < 16) : c = hexD (halfL c) := by
  unfold halfL at h ⊢
  split at h
  · rename_i q
    rw [if_pos q]
    obtain ⟨x, hx, rfl⟩ := isDig_off q
    rw [byte_nat _ (by omega)]
    unfold hexD
    rw [if_pos (by omega), show 48 + (48 + x - 48) = 48 + x from by omega]
  · rename_i q
    rw [if_neg q]
    split at h
    · rename_i q2
      rw [if_pos q2]
      unfold hexD
      rw [if_neg (by omega), show 87 + (c.toNat - 87) = c.toNat from by omega]
      exact (byte_toNat c).symm
    · omega
/-- Which bytes stand for themselves. -/
def plainB (c : UInt8) : Bool := decide (32 ≤ c.toNat) && (decide (c.toNat ≤ 126) && (c.toNat != 34 && c.toNat != 92))
def escB (c : UInt8) : List UInt8 := if plainB c = true then [c] else [byte 92, hexD (c.toNat / 16), hexD (c.toNat % 16)]
def escL (t : List UInt8) : List UInt8 := t.flatMap escB
/-- What stands in quotes, the first one having been passed, and what follows. -/
def txtL : List UInt8 → Option (List UInt8 × List UInt8)
  | [] => none
  | [c] => if c.toNat = 34 then some ([], []) else none
  | [c, d] => if c.toNat = 34 then some ([], [d]) else if plainB c = true then (txtL [d]).map (fun p => (c :: p.1, p.2)) else none
  | c :: a :: b :: r =>
    if c.toNat = 34 then some ([], a :: b :: r)
    else if plainB c = true then (txtL (a :: b :: r)).map (fun p => (c :: p.1, p.2))
    else if c.toNat = 92 ∧ halfL a < 16 ∧ halfL b < 16 ∧ plainB (byte (halfL a * 16 + halfL b)) = false then (txtL r).map (fun p => (byte (halfL a * 16 + halfL b) :: p.1, p.2))
    else none
theorem plain_ne {c : UInt8} (h : plainB c = true) : ¬ c.toNat = 34 := by
  unfold plainB at h
  simp only [Bool.and_eq_true, bne_iff_ne] at h
  exact h.2.2.1
theorem txt_plain {c : UInt8} (h : plainB c = true) (r : List UInt8) (hr : r ≠ []) : txtL (c :: r) = (txtL r).map (fun p => (c :: p.1, p.2)) := by
  match r, hr with
  | [d], _ =>
    conv => lhs; rw [txtL]
    rw [if_neg (plain_ne h), if_pos h]
  | a :: b :: r, _ =>
    conv => lhs; rw [txtL]
    rw [if_neg (plain_ne h), if_pos h]
theorem txt_quote (r : List UInt8) : txtL (byte 34 :: r) = some ([], r) := by
  have e : (byte 34).toNat = 34 := byte_nat 34 (by omega)
  match r with
  | [] => rw [txtL, if_pos e]
  | [d] => rw [txtL, if_pos e]
  | a :: b :: r => rw [txtL, if_pos e]
theorem txt_escape {c : UInt8} (h : plainB c = false) (r : List UInt8) : txtL (byte 92 :: hexD (c.toNat / 16) :: hexD (c.toNat % 16) :: r) = (txtL r).map (fun p => (c :: p.1, p.2)) := by
  have e : (byte 92).toNat = 92 := byte_nat 92 (by omega)
  have hp : plainB (byte 92) = false := by
    unfold plainB
    rw [e]
    decide
  have h1 := half_hex (c.toNat / 16) (by have := nat_lt c; omega)
  have h2 := half_hex (c.toNat % 16) (by omega)
  have hc : byte (halfL (hexD (c.toNat / 16)) * 16 + halfL (hexD (c.toNat % 16))) = c := by
    rw [h1, h2, show c.toNat / 16 * 16 + c.toNat % 16 = c.toNat from by omega]
    exact byte_toNat c
  rw [txtL, if_neg (by rw [e]; decide), if_neg (by rw [hp]; decide), hc, if_pos ⟨e, by rw [h1]; have := nat_lt c; omega, by rw [h2]; omega, h⟩]
/-- What is written of a text is read as it. -/
theorem txt_esc : ∀ (t r : List UInt8), txtL (escL t ++ byte 34 :: r) = some (t, r)
  | [], r => by
    show txtL (byte 34 :: r) = _
    exact txt_quote r
  | c :: t, r => by
    have ih := txt_esc t r
    have e : escL (c :: t) ++ byte 34 :: r = escB c ++ (escL t ++ byte 34 :: r) := by
      unfold escL
      rw [List.flatMap_cons, List.append_assoc]
    rw [e]
    unfold escB
    cases hp : plainB c with
    | true =>
      rw [if_pos rfl, List.cons_append, List.nil_append, txt_plain hp _ (by simp), ih]
      rfl
    | false =>
      rw [if_neg (by decide), List.cons_append, List.cons_append, List.cons_append, List.nil_append, txt_escape hp, ih]
      rfl
/-- What is read as a text is written so. -/
theorem esc_txt : ∀ (n : Nat) (l t r : List UInt8), l.length ≤ n → txtL l = some (t, r) → l = escL t ++ byte 34 :: r
  | _, [], t, r, _, h => by simp [txtL] at h
  | 0, c :: l, t, r, hn, h => by simp at hn
  | n + 1, c :: l, t, r, hn, h => by
    by_cases hq : c.toNat = 34
    · have hc : c = byte 34 := byte_eq hq
      subst hc
      rw [txt_quote] at h
      cases h
      rfl
    cases hp : plainB c with
    | true =>
      by_cases hl : l = []
      · subst hl
        rw [txtL, if_neg hq] at h
        cases h
      · rw [txt_plain hp l hl] at h
        obtain ⟨⟨t2, r2⟩, h1, h2⟩ := Option.map_eq_some_iff.1 h
        cases h2
        have := esc_txt n l t2 _ (by simp at hn; omega) h1
        unfold escL
        rw [List.flatMap_cons]
        unfold escB
        rw [if_pos hp, List.cons_append, List.nil_append, List.cons_append]
        exact congrArg _ this
    | false =>
      match l, hn, h with
      | [], hn, h =>
        rw [txtL, if_neg hq] at h
        cases h
      | [d], hn, h =>
        rw [txtL, if_neg hq, if_neg (by rw [hp]; decide)] at h
        cases h
      | a :: b :: l, hn, h =>
        rw [txtL, if_neg hq, if_neg (by rw [hp]; decide)] at h
        split at h
        · rename_i q
          obtain ⟨q1, q2, q3, q4⟩ := q
          obtain ⟨⟨t2, r2⟩, h1, h2⟩ := Option.map_eq_some_iff.1 h
          cases h2
          have := esc_txt n l t2 _ (by simp at hn; omega) h1
          have hv : (byte (halfL a * 16 + halfL b)).toNat = halfL a * 16 + halfL b := byte_nat _ (by omega)
          unfold escL
          rw [List.flatMap_cons]
          unfold escB
          rw [if_neg (by rw [q4]; decide), hv, show (halfL a * 16 + halfL b) / 16 = halfL a from by omega, show (halfL a * 16 + halfL b) % 16 = halfL b from by omega, ← hex_half a q2, ← hex_half b q3, byte_eq q1]
          simp only [List.cons_append, List.nil_append]
          exact congrArg (fun x => byte 92 :: a :: b :: x) this
        · cases h
end Go.Proofs.Ytmgclgojmckfhaa.Tre
/-
  What is written of a tree, and what is read of a text: the one undoes the other. No program is run here.
-/
namespace Go.Proofs.Ytmgclgojmckfhaa.Tre
open Tks Go.RowKit
set_option linter.unusedSimpArgs false
set_option linter.unusedVariables false

/-- May a node be, with so many kids, that may be or not? -/
def rightN (h : Hd) (n : Nat) (b : Bool) : Bool :=
  decide (1 ≤ h.kind) && (decide (h.kind < 54) && (if h.kind = 1 then (n == 0) && (decide (0 ≤ h.form) && decide (h.form < 22)) else (h.text.data.toList == []) && (decide (0 ≤ h.form) && (decide (h.form ≤ 1) && b))))
def rightF : Fo → Bool
  | .nil => true
  | .cons h k r => rightN h (len k) (rightF k) && rightF r
/-- What is written of a node, its kids' texts being given. -/
def nodeT (h : Hd) (kids : List UInt8) : List UInt8 :=
  if h.kind = 1 then digL h.form.toNat ++ (byte 34 :: (escL h.text.data.toList ++ [byte 34]))
  else byte 40 :: (digL h.kind.toNat ++ ((if h.form = 1 then [byte 33] else []) ++ (kids ++ [byte 41])))
def showF : Fo → List UInt8
  | .nil => []
  | .cons h k r => byte 32 :: (nodeT h (showF k) ++ showF r)
def hd0 (kind form : Int) (t : ByteArray) : Hd := ⟨kind, form, t, 0, 0⟩
def stripF : Fo → Fo
  | .nil => .nil
  | .cons h k r => .cons (hd0 h.kind h.form h.text) (stripF k) (stripF r)
theorem sameF_strip : ∀ f : Fo, sameF f (stripF f) = true
  | .nil => rfl
  | .cons h k r => by
    show ((sameH h (hd0 h.kind h.form h.text) && sameF k (stripF k)) && sameF r (stripF r)) = true
    rw [sameF_strip k, sameF_strip r]
    simp [sameH, hd0]
def bang (l : List UInt8) : Int × List UInt8 := if l.head? = some (byte 33) then (1, l.drop 1) else (0, l)
/-- A tree that begins there, deep in others; how its kids are read is given. -1: there is none; -2: it is too deep. -/
def nodeR (rk : List UInt8 → Except Int (Fo × List UInt8)) (deep : Nat) (l : List UInt8) : Except Int (Hd × Fo × List UInt8) :=
  if 1000 < deep then .error (-2)
  else if l.head? = some (byte 40) then
    if numL (l.drop 1) < 1 ∨ 54 ≤ numL (l.drop 1) ∨ numL (l.drop 1) = 1 then .error (-1)
    else match rk (bang ((l.drop 1).drop (numE (l.drop 1)))).2 with
      | .error e => .error e
      | .ok (k, q) => if q.head? = some (byte 41) then .ok (hd0 (numL (l.drop 1)) (bang ((l.drop 1).drop (numE (l.drop 1)))).1 ⟨#[]⟩, k, q.drop 1) else .error (-1)
  else if numL l < 0 ∨ 22 ≤ numL l then .error (-1)
  else if (l.drop (numE l)).head? = some (byte 34) then match txtL ((l.drop (numE l)).drop 1) with
    | none => .error (-1)
    | some (t, q) => .ok (hd0 1 (numL l) ⟨t.toArray⟩, .nil, q)
  else .error (-1)
/-- The kids that begin there. -/
def readK : Nat → Nat → List UInt8 → Except Int (Fo × List UInt8)
  | 0, _, _ => .error (-1)
  | f + 1, deep, l =>
    if l.head? = some (byte 32) then
      match nodeR (readK f (deep + 1)) deep (l.drop 1) with
      | .error e => .error e
      | .ok (h, k, q) => match readK f deep q with
        | .error e => .error e
        | .ok (fo, q2) => .ok (.cons h k fo, q2)
    else .ok (.nil, l)

theorem noDig_byte (n : Nat) (h : n < 256) (hn : n < 48 ∨ 57 < n) (r : List UInt8) : NoDig (byte n :: r) := by
  intro c q e
  cases e
  unfold isDig
  rw [byte_nat n h]
  rcases hn with hn | hn
  · rw [decide_eq_false (by omega)]
    rfl
  · rw [decide_eq_false (by omega : ¬ n ≤ 57), Bool.and_false]
theorem byte_ne {a b : Nat} (ha : a < 256) (hb : b < 256) (h : a ≠ b) : byte a ≠ byte b := fun e => h (byte_inj ha hb e)
theorem dig_head (n : Nat) (hn : n < 100) (r : List UInt8) (m : Nat) (hm : m < 256) (hq : m < 48 ∨ 57 < m) : (digL n ++ r).head? ≠ some (byte m) := by
  unfold digL
  split
  · intro e
    simp only [List.cons_append, List.head?_cons, Option.some.injEq] at e
    exact byte_ne (by omega) hm (by omega) e
  · intro e
    simp only [List.cons_append, List.head?_cons, Option.some.injEq] at e
    exact byte_ne (by omega) hm (by omega) e
theorem bytes_back (t : ByteArray) : (⟨t.data.toList.toArray⟩ : ByteArray) = t := by
  cases t
  simp
theorem right_parts {h : Hd} {n : Nat} {b : Bool} (hr : rightN h n b = true) : 1 ≤ h.kind ∧ h.kind < 54 ∧ (h.kind = 1 → n = 0 ∧ 0 ≤ h.form ∧ h.form < 22) ∧ (h.kind ≠ 1 → h.text.data.toList = [] ∧ 0 ≤ h.form ∧ h.form ≤ 1 ∧ b = true) := by
  unfold rightN at hr
  simp only [Bool.and_eq_true, decide_eq_true_eq] at hr
  obtain ⟨h1, h2, h3⟩ := hr
  refine ⟨h1, h2, fun e => ?_, fun e => ?_⟩
  · rw [if_pos e] at h3
    simp only [Bool.and_eq_true, decide_eq_true_eq, beq_iff_eq] at h3
    exact h3
  · rw [if_neg e] at h3
    simp only [Bool.and_eq_true, decide_eq_true_eq, beq_iff_eq] at h3
    exact h3
/-- A node that is written is read, or is too deep. -/
theorem back_node (h : Hd) (k : Fo) (rk : List UInt8 → Except Int (Fo × List UInt8)) (deep : Nat) (r : List UInt8) (hr : rightN h (len k) (rightF k) = true)
    (hk : h.kind ≠ 1 → rk (showF k ++ (byte 41 :: r)) = if deepF k = 0 ∨ deep + 1 + deepF k ≤ 1001 then .ok (stripF k, byte 41 :: r) else .error (-2)) :
    nodeR rk deep (nodeT h (showF k) ++ r) = if deep + deepF k ≤ 1000 then .ok (hd0 h.kind h.form h.text, stripF k, r) else .error (-2) := by
  obtain ⟨h1, h2, h3, h4⟩ := right_parts hr
  unfold nodeR
  by_cases hd : 1000 < deep
  · rw [if_pos hd, if_neg (by omega)]
  rw [if_neg hd]
  by_cases hl : h.kind = 1
  · obtain ⟨hk0, f1, f2⟩ := h3 hl
    have hkn : k = .nil := by
      cases k with
      | nil => rfl
      | cons => simp [len] at hk0
    subst hkn
    have hn : h.form.toNat < 100 := by omega
    have e : nodeT h (showF .nil) ++ r = digL h.form.toNat ++ (byte 34 :: (escL h.text.data.toList ++ byte 34 :: r)) := by
      unfold nodeT
      rw [if_pos hl]
      simp
    rw [e]
    obtain ⟨n1, n2⟩ := num_dig h.form.toNat hn (byte 34 :: (escL h.text.data.toList ++ byte 34 :: r)) (noDig_byte 34 (by omega) (.inl (by omega)) _)
    rw [if_neg (dig_head _ hn _ 40 (by omega) (.inl (by omega))), n1, n2, List.drop_left, if_neg (by omega), List.head?_cons, if_pos rfl, List.drop_succ_cons, List.drop_zero, txt_esc]
    show Except.ok (hd0 1 ((h.form.toNat : Nat) : Int) ⟨h.text.data.toList.toArray⟩, Fo.nil, r) = _
    rw [if_pos (by show deep + 0 ≤ 1000; omega), bytes_back, hl, show ((h.form.toNat : Nat) : Int) = h.form from by omega]
    rfl
  · obtain ⟨t0, f1, f2, -⟩ := h4 hl
    have hn : h.kind.toNat < 100 := by omega
    have e : nodeT h (showF k) ++ r = byte 40 :: (digL h.kind.toNat ++ ((if h.form = 1 then [byte 33] else []) ++ (showF k ++ (byte 41 :: r)))) := by
      unfold nodeT
      rw [if_neg hl]
      simp
    rw [e, List.head?_cons, if_pos rfl, List.drop_succ_cons, List.drop_zero]
    have hrest : NoDig ((if h.form = 1 then [byte 33] else []) ++ (showF k ++ (byte 41 :: r))) := by
      by_cases q : h.form = 1
      · rw [if_pos q]
        exact noDig_byte 33 (by omega) (.inl (by omega)) _
      · rw [if_neg q]
        cases k with
        | nil => exact noDig_byte 41 (by omega) (.inl (by omega)) _
        | cons => exact noDig_byte 32 (by omega) (.inl (by omega)) _
    obtain ⟨n1, n2⟩ := num_dig h.kind.toNat hn _ hrest
    rw [n1, n2, List.drop_left, if_neg (by omega)]
    have hb : bang ((if h.form = 1 then [byte 33] else []) ++ (showF k ++ (byte 41 :: r))) = (h.form, showF k ++ (byte 41 :: r)) := by
      unfold bang
      by_cases q : h.form = 1
      · rw [if_pos q, List.cons_append, List.nil_append, List.head?_cons, if_pos rfl, q]
        rfl
      · rw [if_neg q, List.nil_append]
        have : h.form = 0 := by omega
        rw [if_neg, this]
        intro e2
        cases k with
        | nil =>
          simp only [showF, List.nil_append, List.head?_cons, Option.some.injEq] at e2
          exact byte_ne (by omega) (by omega) (by omega) e2
        | cons =>
          simp only [showF, List.cons_append, List.head?_cons, Option.some.injEq] at e2
          exact byte_ne (by omega) (by omega) (by omega) e2
    rw [hb, hk hl]
    dsimp only
    have ht : h.text = ⟨#[]⟩ := by
      have := bytes_back h.text
      rw [t0] at this
      exact this.symm
    by_cases hq : deep + deepF k ≤ 1000
    · rw [if_pos hq, if_pos (by omega)]
      dsimp only
      rw [List.head?_cons, if_pos rfl, List.drop_succ_cons, List.drop_zero, show ((h.kind.toNat : Nat) : Int) = h.kind from by omega, ht]
    · rw [if_neg hq, if_neg (by omega)]
/-- Kids that are written are read, or are too deep. -/
theorem back_kids : ∀ (k : Fo) (f deep : Nat) (r : List UInt8), rightF k = true → (showF k ++ r).length < f → r.head? ≠ some (byte 32) →
    readK f deep (showF k ++ r) = if deepF k = 0 ∨ deep + deepF k ≤ 1001 then .ok (stripF k, r) else .error (-2)
  | _, 0, _, _, _, hf, _ => absurd hf (by omega)
  | .nil, f + 1, deep, r, _, _, hh => by
    show readK (f + 1) deep r = _
    rw [readK, if_neg hh, if_pos (.inl rfl)]
    rfl
  | .cons h k q, f + 1, deep, r, hr, hf, hh => by
    have hr : (rightN h (len k) (rightF k) && rightF q) = true := hr
    obtain ⟨hr1, hr2⟩ := Bool.and_eq_true_iff.1 hr
    have e : showF (.cons h k q) ++ r = byte 32 :: (nodeT h (showF k) ++ (showF q ++ r)) := by
      simp [showF]
    have hlen : (nodeT h (showF k) ++ (showF q ++ r)).length < f := by
      rw [e, List.length_cons] at hf
      omega
    have hkl : h.kind ≠ 1 → (showF k ++ (byte 41 :: (showF q ++ r))).length < f := by
      intro hl
      unfold nodeT at hlen
      rw [if_neg hl] at hlen
      simp only [List.length_append, List.length_cons, List.length_nil] at hlen ⊢
      omega
    have hkr : h.kind ≠ 1 → rightF k = true := fun hl => ((right_parts hr1).2.2.2 hl).2.2.2
    have hn := back_node h k (readK f (deep + 1)) deep (showF q ++ r) hr1 (fun hl => back_kids k f (deep + 1) (byte 41 :: (showF q ++ r)) (hkr hl) (hkl hl) (by
      rw [List.head?_cons]
      intro e2
      injection e2 with e2
      exact byte_ne (by omega) (by omega) (by omega) e2))
    have hq := back_kids q f deep r hr2 (by rw [List.length_append] at hlen; omega) hh
    rw [e, readK, List.head?_cons, if_pos rfl, List.drop_succ_cons, List.drop_zero, hn]
    have hdp : deepF (.cons h k q) = max (1 + deepF k) (deepF q) := rfl
    by_cases c1 : deep + deepF k ≤ 1000
    · rw [if_pos c1]
      dsimp only
      rw [hq]
      by_cases c2 : deepF q = 0 ∨ deep + deepF q ≤ 1001
      · rw [if_pos c2, if_pos (by rw [hdp]; omega)]
        rfl
      · rw [if_neg c2, if_neg (by rw [hdp]; omega)]
    · rw [if_neg c1, if_neg (by rw [hdp]; omega)]
/-- What is read is written so, and may be. -/
theorem again_node {rk : List UInt8 → Except Int (Fo × List UInt8)} (hrk : ∀ l k q, rk l = .ok (k, q) → l = showF k ++ q ∧ rightF k = true) {deep : Nat} {l q : List UInt8} {h : Hd} {k : Fo}
    (hh : nodeR rk deep l = .ok (h, k, q)) : l = nodeT h (showF k) ++ q ∧ rightN h (len k) (rightF k) = true := by
  unfold nodeR at hh
  split at hh
  · cases hh
  split at hh
  · rename_i h40
    obtain ⟨l2, rfl⟩ : ∃ l2, l = byte 40 :: l2 := by
      cases l with
      | nil => cases h40
      | cons c l2 =>
        simp only [List.head?_cons, Option.some.injEq] at h40
        exact ⟨l2, by rw [h40]⟩
    rw [List.drop_succ_cons, List.drop_zero] at hh
    split at hh
    · cases hh
    rename_i hnum
    split at hh
    · cases hh
    rename_i k2 q2 hk2
    split at hh
    · rename_i h41
      cases hh
      obtain ⟨q3, rfl⟩ : ∃ q3, q2 = byte 41 :: q3 := by
        cases q2 with
        | nil => cases h41
        | cons c q3 =>
          simp only [List.head?_cons, Option.some.injEq] at h41
          exact ⟨q3, by rw [h41]⟩
      rw [List.drop_succ_cons, List.drop_zero]
      obtain ⟨e1, hr⟩ := hrk _ _ _ hk2
      obtain ⟨n, hn⟩ : ∃ n : Nat, numL l2 = n := ⟨(numL l2).toNat, by omega⟩
      have hd := dig_num l2 n (by omega) hn
      have e2 := digs_take 3 l2
      rw [hd] at e2
      have hE : numE l2 = (digL n).length := by unfold numE; rw [hd]
      rw [hE] at e1 ⊢
      generalize l2.drop (digL n).length = l3 at *
      have hb : l3 = (if (bang l3).1 = 1 then [byte 33] else []) ++ (bang l3).2 ∧ ((bang l3).1 = 0 ∨ (bang l3).1 = 1) := by
        unfold bang
        split
        · rename_i h33
          cases l3 with
          | nil => cases h33
          | cons c l4 =>
            simp only [List.head?_cons, Option.some.injEq] at h33
            rw [h33]
            exact ⟨rfl, .inr rfl⟩
        · exact ⟨by simp, .inl rfl⟩
      clear hk2 hd hE
      generalize numL l2 = m at *
      refine ⟨?_, ?_⟩
      · unfold nodeT
        rw [if_neg (by show ¬ m = 1; omega)]
        rw [e2]
        have hk : (hd0 m (bang l3).1 ⟨#[]⟩).kind.toNat = n := by show m.toNat = n; rw [hn]; rfl
        have hf : (hd0 m (bang l3).1 ⟨#[]⟩).form = (bang l3).1 := rfl
        rw [hk, hf]
        have e3 : l3 = (if (bang l3).1 = 1 then [byte 33] else []) ++ (showF k ++ byte 41 :: q3) := by
          rw [← e1]
          exact hb.1
        simp only [List.cons_append, List.append_assoc, List.nil_append]
        rw [← e3]
      · unfold rightN
        have hk : (hd0 m (bang l3).1 ⟨#[]⟩).kind = m := rfl
        have hf : (hd0 m (bang l3).1 ⟨#[]⟩).form = (bang l3).1 := rfl
        have ht : (hd0 m (bang l3).1 ⟨#[]⟩).text.data.toList = [] := rfl
        rw [hk, hf, ht, if_neg (by omega), hr, decide_eq_true (by omega), decide_eq_true (by omega), decide_eq_true (by rcases hb.2 with q | q <;> rw [q] <;> decide), decide_eq_true (by rcases hb.2 with q | q <;> rw [q] <;> decide)]
        rfl
    · cases hh
  · split at hh
    · cases hh
    rename_i hnum
    split at hh
    · rename_i h34
      split at hh
      · cases hh
      rename_i t q2 ht
      cases hh
      obtain ⟨n, hn⟩ : ∃ n : Nat, numL l = n := ⟨(numL l).toNat, by omega⟩
      have hd := dig_num l n (by omega) hn
      have e2 := digs_take 3 l
      rw [hd] at e2
      have hE : numE l = (digL n).length := by unfold numE; rw [hd]
      rw [hE] at h34 ht
      generalize l.drop (digL n).length = l3 at *
      obtain ⟨l4, rfl⟩ : ∃ l4, l3 = byte 34 :: l4 := by
        cases l3 with
        | nil => cases h34
        | cons c l4 =>
          simp only [List.head?_cons, Option.some.injEq] at h34
          exact ⟨l4, by rw [h34]⟩
      rw [List.drop_succ_cons, List.drop_zero] at ht
      have e3 := esc_txt _ l4 t q (Nat.le_refl _) ht
      clear hd hE
      generalize numL l = m at *
      have hk1 : (hd0 1 m ⟨t.toArray⟩).kind = 1 := rfl
      refine ⟨?_, ?_⟩
      · unfold nodeT
        rw [if_pos hk1]
        have hf : (hd0 1 m ⟨t.toArray⟩).form.toNat = n := by show m.toNat = n; rw [hn]; rfl
        have htx : (hd0 1 m ⟨t.toArray⟩).text.data.toList = t := rfl
        rw [hf, htx]
        rw [e3] at e2
        simp only [List.cons_append, List.append_assoc, List.nil_append]
        exact e2
      · unfold rightN
        rw [if_pos hk1]
        have hf : (hd0 1 m ⟨t.toArray⟩).form = m := rfl
        rw [hf, decide_eq_true (by omega : 0 ≤ m), decide_eq_true (by omega : m < 22)]
        rfl
    · cases hh
theorem again_kids : ∀ (f deep : Nat) (l q : List UInt8) (k : Fo), readK f deep l = .ok (k, q) → l = showF k ++ q ∧ rightF k = true
  | 0, _, _, _, _, h => by cases h
  | f + 1, deep, l, q, k, h => by
    rw [readK] at h
    split at h
    · rename_i h32
      obtain ⟨l2, rfl⟩ : ∃ l2, l = byte 32 :: l2 := by
        cases l with
        | nil => cases h32
        | cons c l2 =>
          simp only [List.head?_cons, Option.some.injEq] at h32
          exact ⟨l2, by rw [h32]⟩
      rw [List.drop_succ_cons, List.drop_zero] at h
      split at h
      · cases h
      rename_i hd kd q1 hnd
      split at h
      · cases h
      rename_i fo q2 hfo
      cases h
      obtain ⟨e1, r1⟩ := again_node (fun l k q hq => again_kids f (deep + 1) l q k hq) hnd
      obtain ⟨e2, r2⟩ := again_kids f deep q1 q fo hfo
      refine ⟨?_, ?_⟩
      · rw [e1, e2]
        simp [showF]
      · show (rightN hd (len kd) (rightF kd) && rightF fo) = true
        rw [r1, r2]
        rfl
    · cases h
      exact ⟨rfl, rfl⟩
theorem bang_len (l : List UInt8) : (bang l).2.length ≤ l.length := by
  unfold bang
  split
  · rw [List.length_drop]
    omega
  · exact Nat.le_refl _
theorem node_len (h : Hd) (s : List UInt8) : 0 < (nodeT h s).length := by
  unfold nodeT
  split
  · rw [List.length_append, List.length_cons]
    omega
  · rw [List.length_cons]
    omega
theorem node_short {rk : List UInt8 → Except Int (Fo × List UInt8)} (hrk : ∀ l k q, rk l = .ok (k, q) → l = showF k ++ q ∧ rightF k = true) {deep : Nat} {l q : List UInt8} {h : Hd} {k : Fo} (hh : nodeR rk deep l = .ok (h, k, q)) : q.length < l.length := by
  obtain ⟨e, -⟩ := again_node hrk hh
  have := node_len h (showF k)
  rw [e, List.length_append]
  omega
/-- A node is read alike, where kids are read alike further on. -/
theorem node_congr {rk rk' : List UInt8 → Except Int (Fo × List UInt8)} (deep : Nat) (l : List UInt8) (h : ∀ q, q.length < l.length → rk q = rk' q) : nodeR rk deep l = nodeR rk' deep l := by
  unfold nodeR
  split
  · rfl
  split
  · rename_i h40
    have hl : 0 < l.length := by
      cases l with
      | nil => cases h40
      | cons c r => simp
    rw [h _ (by
      have h1 := bang_len ((l.drop 1).drop (numE (l.drop 1)))
      rw [List.length_drop, List.length_drop] at h1
      omega)]
  · rfl
/-- How much there is left to go is of no matter, if it is enough. -/
theorem read_fuel : ∀ (f g deep : Nat) (l : List UInt8), l.length < f → l.length < g → readK f deep l = readK g deep l
  | 0, _, _, _, h, _ => absurd h (by omega)
  | _ + 1, 0, _, _, _, h => absurd h (by omega)
  | f + 1, g + 1, deep, l, hf, hg => by
    rw [readK, readK]
    by_cases h32 : l.head? = some (byte 32)
    · rw [if_pos h32, if_pos h32]
      have hl : 0 < l.length := by
        cases l with
        | nil => cases h32
        | cons c r => simp
      have hd : (l.drop 1).length = l.length - 1 := List.length_drop ..
      rw [node_congr deep (l.drop 1) (fun q hq => read_fuel f g (deep + 1) q (by omega) (by omega))]
      cases hn : nodeR (readK g (deep + 1)) deep (l.drop 1) with
      | error e => rfl
      | ok p =>
        obtain ⟨h, k, q⟩ := p
        dsimp only
        have hq := node_short (fun l k q hq => again_kids g (deep + 1) l q k hq) hn
        rw [read_fuel f g deep q (by omega) (by omega)]
    · rw [if_neg h32, if_neg h32]
/-- The tree that begins there: what is read, with enough left to go. -/
def readT (deep : Nat) (l : List UInt8) : Except Int (Hd × Fo × List UInt8) := nodeR (readK (l.length + 1) (deep + 1)) deep l
def readKs (deep : Nat) (l : List UInt8) : Except Int (Fo × List UInt8) := readK (l.length + 1) deep l
theorem readT_fuel (f deep : Nat) (l : List UInt8) (h : l.length < f) : readT deep l = nodeR (readK f (deep + 1)) deep l :=
  node_congr deep l (fun q hq => read_fuel _ _ _ q (by omega) (by omega))
/-- The kids, one after the other. -/
theorem readKs_step (deep : Nat) (l : List UInt8) : readKs deep l = if l.head? = some (byte 32) then (match readT deep (l.drop 1) with
      | .error e => .error e
      | .ok (h, k, q) => match readKs deep q with
        | .error e => .error e
        | .ok (fo, q2) => .ok (.cons h k fo, q2)) else .ok (.nil, l) := by
  unfold readKs
  rw [readK]
  by_cases h32 : l.head? = some (byte 32)
  · rw [if_pos h32, if_pos h32]
    have hl : 0 < l.length := by
      cases l with
      | nil => cases h32
      | cons c r => simp
    have hd : (l.drop 1).length = l.length - 1 := List.length_drop ..
    rw [readT_fuel l.length deep (l.drop 1) (by omega)]
    cases hn : nodeR (readK l.length (deep + 1)) deep (l.drop 1) with
    | error e => rfl
    | ok p =>
      obtain ⟨h, k, q⟩ := p
      dsimp only
      have hq := node_short (fun l k q hq => again_kids _ (deep + 1) l q k hq) hn
      rw [read_fuel l.length (q.length + 1) deep q (by omega) (by omega)]
  · rw [if_neg h32, if_neg h32]
/-- K6: what is shown is read as it was, but for places, or is too deep. -/
theorem back_tree (h : Hd) (k : Fo) (hr : rightN h (len k) (rightF k) = true) : readT 1 (nodeT h (showF k)) = if 1 + deepF k ≤ 1000 then .ok (hd0 h.kind h.form h.text, stripF k, []) else .error (-2) := by
  unfold readT
  have hkr : h.kind ≠ 1 → rightF k = true := fun hl => ((right_parts hr).2.2.2 hl).2.2.2
  have := back_node h k (readK ((nodeT h (showF k)).length + 1) (1 + 1)) 1 [] hr (fun hl => back_kids k _ (1 + 1) [byte 41] (hkr hl) (by
    unfold nodeT
    rw [if_neg hl]
    simp only [List.length_append, List.length_cons, List.length_nil]
    omega) (by
    rw [List.head?_cons]
    intro e2
    injection e2 with e2
    exact byte_ne (by omega) (by omega) (by omega) e2))
  rw [List.append_nil] at this
  exact this
/-- K6: what is read is shown so. -/
theorem again_tree {deep : Nat} {l q : List UInt8} {h : Hd} {k : Fo} (hh : readT deep l = .ok (h, k, q)) : l = nodeT h (showF k) ++ q ∧ rightN h (len k) (rightF k) = true :=
  again_node (fun l k q hq => again_kids _ _ l q k hq) hh
end Go.Proofs.Ytmgclgojmckfhaa.Tre
/-
  Trees as they lie in memory. No program is run here.
-/
namespace Go.Proofs.Ytmgclgojmckfhaa.Tre
open Tks Go.RowKit
set_option linter.unusedSimpArgs false
set_option linter.unusedVariables false

/-- A row of trees lies in block b from the cell off on. -/
def FoIn (w : World) : Fo → Nat → Nat → Prop
  | .nil, _, _ => True
  | .cons h k r, b, off =>
    (∃ vk, w.cell? ⟨b, off, none⟩ = some (.int .i64 h.kind) ∧ w.cell? ⟨b, off + 1, none⟩ = some (.int .i64 h.form) ∧ w.cell? ⟨b, off + 2, none⟩ = some (.string h.text) ∧ w.cell? ⟨b, off + 3, none⟩ = some (.int .i64 h.line) ∧ w.cell? ⟨b, off + 4, none⟩ = some (.int .i64 h.col) ∧ w.cell? ⟨b, off + 5, none⟩ = some vk ∧
      ((k = .nil ∧ ∃ a c, vk = .slice a 0 c) ∨ ∃ b2 off2 c, vk = .slice (some ⟨b2, off2, none⟩) (len k) c ∧ len k ≤ maxLen ∧ b2 < w.heap.size ∧ FoIn w k b2 off2)) ∧
    FoIn w r b (off + 6)
/-- The row of kids that a slice holds. -/
def KArg (w : World) (v : Value) (k : Fo) : Prop :=
  (k = .nil ∧ ∃ a c, v = .slice a 0 c) ∨ ∃ b off c, v = .slice (some ⟨b, off, none⟩) (len k) c ∧ len k ≤ maxLen ∧ b < w.heap.size ∧ FoIn w k b off
def ndV (h : Hd) (vk : Value) : Value := .agg #[.int .i64 h.kind, .int .i64 h.form, .string h.text, .int .i64 h.line, .int .i64 h.col, vk]
/-- The tree that a value is. -/
def NdArg (w : World) (v : Value) (h : Hd) (k : Fo) : Prop := ∃ vk, v = ndV h vk ∧ KArg w vk k
theorem KArg.len {w : World} {v : Value} {k : Fo} (h : KArg w v k) : ∃ a c, v = .slice a (len k) c := by
  rcases h with ⟨rfl, a, c, rfl⟩ | ⟨b, off, c, rfl, _⟩
  · exact ⟨a, c, rfl⟩
  · exact ⟨_, c, rfl⟩
theorem KArg.max {w : World} {v : Value} {k : Fo} (h : KArg w v k) : Tre.len k ≤ maxLen := by
  rcases h with ⟨rfl, a, c, rfl⟩ | ⟨b, off, c, rfl, h, _⟩
  · exact Nat.zero_le _
  · exact h
theorem KArg.nil (w : World) (a : Option Addr) (c : Nat) : KArg w (.slice a 0 c) .nil := .inl ⟨rfl, a, c, rfl⟩
theorem FoIn.kept {w w' : World} {B : Nat} (hb : Below B w w') (hB : w.heap.size ≤ B) : ∀ (f : Fo) (b off : Nat), b < w.heap.size → FoIn w f b off → FoIn w' f b off
  | .nil, _, _, _, _ => trivial
  | .cons h k r, b, off, hlt, ⟨⟨vk, c0, c1, c2, c3, c4, c5, hk⟩, hr⟩ => by
    have hc : ∀ o, w'.cell? ⟨b, o, none⟩ = w.cell? ⟨b, o, none⟩ := fun o => World.cell?_of_block (hb.block b (Nat.lt_of_lt_of_le hlt hB))
    refine ⟨⟨vk, (hc _).trans c0, (hc _).trans c1, (hc _).trans c2, (hc _).trans c3, (hc _).trans c4, (hc _).trans c5, ?_⟩, FoIn.kept hb hB r b (off + 6) hlt hr⟩
    rcases hk with h1 | ⟨b2, off2, c, e, hm, h1, h2⟩
    · exact .inl h1
    · exact .inr ⟨b2, off2, c, e, hm, Nat.lt_of_lt_of_le h1 hb.size, FoIn.kept hb hB k b2 off2 h1 h2⟩
theorem KArg.below {w w' : World} {v : Value} {k : Fo} {B : Nat} (h : KArg w v k) (hb : Below B w w') (hB : w.heap.size ≤ B) : KArg w' v k := by
  rcases h with h | ⟨b, off, c, e, hm, h1, h2⟩
  · exact .inl h
  · exact .inr ⟨b, off, c, e, hm, Nat.lt_of_lt_of_le h1 hb.size, FoIn.kept hb hB k b off h1 h2⟩
theorem NdArg.below {w w' : World} {v : Value} {h : Hd} {k : Fo} {B : Nat} (hn : NdArg w v h k) (hb : Below B w w') (hB : w.heap.size ≤ B) : NdArg w' v h k := by
  obtain ⟨vk, e, hk⟩ := hn
  exact ⟨vk, e, hk.below hb hB⟩
theorem FoIn.at {w : World} {b : Nat} : ∀ (n : Nat) (f : Fo) (off : Nat), FoIn w f b off → FoIn w (dropF n f) b (off + n * 6)
  | 0, f, off, h => by
    have e : dropF 0 f = f := by cases f <;> rfl
    rw [e, Nat.zero_mul, Nat.add_zero]
    exact h
  | n + 1, .nil, off, h => trivial
  | n + 1, .cons h k r, off, hf => by
    have := FoIn.at n r (off + 6) hf.2
    have e : off + 6 + n * 6 = off + (n + 1) * 6 := by omega
    rw [e] at this
    exact this
/-- The tree at a place of a row. -/
theorem FoIn.six {w : World} {b : Nat} {f : Fo} {off : Nat} (hf : FoIn w f b off) {n : Nat} {h : Hd} {k : Fo} (e : dropF n f = .cons h k (dropF (n + 1) f)) :
    ∃ vk, w.cell? ⟨b, off + n * 6, none⟩ = some (.int .i64 h.kind) ∧ w.cell? ⟨b, off + n * 6 + 1, none⟩ = some (.int .i64 h.form) ∧ w.cell? ⟨b, off + n * 6 + 2, none⟩ = some (.string h.text) ∧ w.cell? ⟨b, off + n * 6 + 3, none⟩ = some (.int .i64 h.line) ∧ w.cell? ⟨b, off + n * 6 + 4, none⟩ = some (.int .i64 h.col) ∧ w.cell? ⟨b, off + n * 6 + 5, none⟩ = some vk ∧ KArg w vk k := by
  have h1 := FoIn.at n f off hf
  rw [e] at h1
  exact h1.1
/-- A node in a block of its own. -/
def ndO (h : Hd) (vk : Value) : Obj := .cells #[.int .i64 h.kind, .int .i64 h.form, .string h.text, .int .i64 h.line, .int .i64 h.col, vk] 30
/-- A block lies there. -/
def Lies (W : World) (B : Nat) (o : Obj) : Prop := W.heap[B]? = some o
theorem Lies.new (W : World) (o : Obj) : Lies (W.alloc o) W.heap.size o := heap_alloc_new W o
theorem Lies.lt {W : World} {B : Nat} {o : Obj} (h : Lies W B o) : B < W.heap.size := (Array.getElem?_eq_some_iff.1 h).1
theorem Lies.below {W W' : World} {B C : Nat} {o : Obj} (h : Lies W B o) (hb : Below C W W') (hB : B < C) : Lies W' B o := (hb.block B hB).trans h
theorem Lies.alloc {W : World} {B : Nat} {o : Obj} (h : Lies W B o) (p : Obj) : Lies (W.alloc p) B o := h.below ((Below.refl W.heap.size W).alloc (Nat.le_refl _) p) h.lt
theorem Lies.cell {W : World} {B : Nat} {cs : Array Value} {t : TypeId} {fr : Nat × Nat} (h : Lies W B (.cells cs t fr)) (j : Nat) : W.cell? ⟨B, j, none⟩ = cs[j]? := cell_of_row _ _ _ _ _ _ h
theorem Lies.node {W : World} {B : Nat} {h : Hd} {vk : Value} (q : Lies W B (ndO h vk)) :
    W.cell? ⟨B, 0, none⟩ = some (.int .i64 h.kind) ∧ W.cell? ⟨B, 1, none⟩ = some (.int .i64 h.form) ∧ W.cell? ⟨B, 2, none⟩ = some (.string h.text) ∧ W.cell? ⟨B, 3, none⟩ = some (.int .i64 h.line) ∧ W.cell? ⟨B, 4, none⟩ = some (.int .i64 h.col) ∧ W.cell? ⟨B, 5, none⟩ = some vk :=
  ⟨(Lies.cell q 0).trans rfl, (Lies.cell q 1).trans rfl, (Lies.cell q 2).trans rfl, (Lies.cell q 3).trans rfl, (Lies.cell q 4).trans rfl, (Lies.cell q 5).trans rfl⟩
theorem afterL {w a b : World} (h : Below w.heap.size w a) (k : Below a.heap.size a b) : Below w.heap.size w b := h.trans (k.mono h.size)
theorem two_lie (w : World) (o1 o2 : Obj) : Lies ((w.alloc o1).alloc o2) w.heap.size o1 ∧ Lies ((w.alloc o1).alloc o2) (w.heap.size + 1) o2 := by
  refine ⟨(Lies.new w o1).alloc o2, ?_⟩
  have := Lies.new (w.alloc o1) o2
  rwa [World.size_alloc] at this
theorem below_one (w : World) (o1 : Obj) : Below w.heap.size w (w.alloc o1) := (Below.refl _ _).alloc (Nat.le_refl _) o1
theorem bdrew {n : Nat} {W W' : World} (h : Below n W W') : Below n W W'.drew := ⟨h.os, h.tape, h.output, h.size, h.block⟩
theorem gen_world {c : Code} {Q : Exit → Act → World → Prop} {a : Act} {W : World} (P : World → Prop) (h : P W) (k : ∀ X, P X → c.wp Try.prog Q a X) : c.wp Try.prog Q a W := k _ h
theorem idx_max (k n : Nat) (hk : k < n) (hn : n ≤ maxLen) : IntKind.i64.wrap ((k : Int) + 1) = (k : Int) + 1 ∧ wrap64 ((k : Int) + 1) = (k : Int) + 1 := by
  unfold maxLen at hn
  have e : wrap64 ((k : Int) + 1) = (k : Int) + 1 := IntWalk.wrap64_in _ ⟨by omega, by omega⟩
  exact ⟨by rw [IntWalk.i64_left]; exact e, e⟩
end Go.Proofs.Ytmgclgojmckfhaa.Tre
/-
  The document's own Same of trees. No condition.
-/
namespace Go.Proofs.Ytmgclgojmckfhaa.Tre
open Tks Go.RowKit
set_option linter.unusedSimpArgs false
set_option linter.unusedVariables false

theorem undrew {W W' : World} (h : Below W.drew.heap.size W.drew W') : Below W.heap.size W W' := ⟨h.os, h.tape, h.output, h.size, h.block⟩
theorem below_two' (w : World) (o1 o2 : Obj) : Below w.heap.size w ((w.alloc o1).alloc o2) := afterL (below_one w o1) (below_one _ o2)
theorem sameF_cons {h g : Hd} {k r l q : Fo} : sameF (.cons h k r) (.cons g l q) = ((sameH h g && sameF k l) && sameF r q) := rfl
theorem sameF_lens {k l : Fo} (h : len k ≠ len l) : sameF k l = false := by
  cases e : sameF k l with
  | false => rfl
  | true => exact absurd (sameF_len e) h
end Go.Proofs.Ytmgclgojmckfhaa.Tre
/-
  The document's own Size, Depth and Right of trees. Conditions: at most 2^40 nodes (Size, Depth); none (Right).
-/
namespace Go.Proofs.Ytmgclgojmckfhaa.Tre
open Tks Go.RowKit
set_option linter.unusedSimpArgs false
set_option linter.unusedVariables false

theorem drop_zero (f : Fo) : dropF 0 f = f := by cases f <;> rfl
theorem mem_size {h : Hd} {k f : Fo} (m : MemF h k f) : 1 + sizeF k ≤ sizeF f := by
  induction m with
  | head r =>
    simp only [sizeF]
    omega
  | tail h' k' r' _ ih =>
    simp only [sizeF]
    omega
theorem mem_deep {h : Hd} {k f : Fo} (m : MemF h k f) : 1 + deepF k ≤ deepF f := by
  induction m with
  | head r =>
    simp only [deepF]
    omega
  | tail h' k' r' _ ih =>
    simp only [deepF]
    omega
end Go.Proofs.Ytmgclgojmckfhaa.Tre
/-
  The document's own Right of trees. No condition.
-/
namespace Go.Proofs.Ytmgclgojmckfhaa.Tre
open Tks Go.RowKit
set_option linter.unusedSimpArgs false
set_option linter.unusedVariables false

end Go.Proofs.Ytmgclgojmckfhaa.Tre
/-
  Rows of bytes that a call owns; the document's digits. Conditions: numbers below 100.
-/
namespace Go.Proofs.Ytmgclgojmckfhaa.Tre
open Tks Go.RowKit
set_option linter.unusedSimpArgs false
set_option linter.unusedVariables false

theorem grown_of_below {w w' : World} (h : Below w.heap.size w w') : w.grownBy w' none := ⟨h.os, h.tape, h.output, h.size, fun k hk _ => h.block k hk⟩
theorem infoByte : (Try.prog.info? 5).map (fun i => (i.zero, i.size, i.bytes)) = some (some (.int .u8 0), 1, 1) := by kernel_rfl
/-- A row of bytes in memory of the call's own. -/
def Bytes (w : World) (base : Nat) (v : Value) (l : List UInt8) : Prop := w.ownsRow base 5 1 v l.length (Lib.byteCells l)
theorem Bytes.cat {w : World} {base : Nat} {v : Value} {l ys : List UInt8} (h : w.ownsRow base 5 1 v (l.length + ys.length) (Lib.byteCells l ++ Lib.byteCells ys)) : Bytes w base v (l ++ ys) := by
  unfold Bytes
  rw [List.length_append, Lib.byteCells_append]
  exact h
theorem Bytes.cats {w : World} {base : Nat} {v : Value} {l : List UInt8} {x : ByteArray} (h : w.ownsRow base 5 1 v (l.length + x.size) (Lib.byteCells l ++ Lib.strCells x)) : Bytes w base v (l ++ x.data.toList) := by
  unfold Bytes
  rw [List.length_append, Lib.byteCells_append, ← Lib.size_eq, ← Lib.strCells_eq]
  exact h
theorem Bytes.nil (w : World) (B : Nat) : Bytes w B (.slice none 0 0) [] := World.ownsRow_nil _ _ _ _
theorem Bytes.kept {w w' : World} {B : Nat} {v : Value} {l : List UInt8} {row : Option Nat} (h : Bytes w B v l) (hg : w.grownBy w' row) (hne : v.ownBlock = none ∨ v.ownBlock ≠ row) : Bytes w' B v l := World.ownsRow.kept h hg hne
theorem Bytes.below {w w' : World} {B : Nat} {v : Value} {l : List UInt8} (h : Bytes w B v l) (hb : Below w.heap.size w w') : Bytes w' B v l := by
  rcases h.2 with ⟨rfl, -⟩ | ⟨g, cap, cur, rfl, -⟩
  · exact h.kept (grown_of_below hb) (.inl rfl)
  · exact h.kept (grown_of_below hb) (.inr (by simp [Value.ownBlock]))
theorem after_bytes {w W w3 : World} {B : Nat} {v : Value} {l : List UInt8} (own : Bytes W B v l) (hb : Below B w W) (hBw : B ≤ W.heap.size) (hgrow : W.grownBy w3 v.ownBlock) : Below B w w3 :=
  hb.grown hgrow hBw (fun k hk => (World.ownsRow.lt own k hk).1)
theorem after_byte {w W w3 : World} {B : Nat} {v : Value} {l : List UInt8} {o : Obj} (own : Bytes W B v l) (hb : Below B w W) (hBw : B ≤ W.heap.size) (hgrow : (W.alloc o).grownBy w3 v.ownBlock) : Below B w w3 :=
  (hb.alloc hBw o).grown hgrow (by rw [World.size_alloc]; omega) (fun k hk => (World.ownsRow.lt own k hk).1)
theorem Bytes.less {w : World} {A B : Nat} {v : Value} {l : List UInt8} (h : Bytes w B v l) (hb : A ≤ B) : Bytes w A v l :=
  ⟨h.1, h.2.imp id fun ⟨g, cap, cur, h1, h2, h3⟩ => ⟨g, cap, cur, h1, Nat.le_trans hb h2, h3⟩⟩
theorem dig_one : ∀ m : Nat, m < 10 → (⟨#[48, 49, 50, 51, 52, 53, 54, 55, 56, 57]⟩ : ByteArray).extract m (m + 1) = ⟨#[byte (48 + m)]⟩
  | 0, _ => rfl
  | 1, _ => rfl
  | 2, _ => rfl
  | 3, _ => rfl
  | 4, _ => rfl
  | 5, _ => rfl
  | 6, _ => rfl
  | 7, _ => rfl
  | 8, _ => rfl
  | 9, _ => rfl
  | n + 10, h => absurd h (by omega)
/-- All blocks that are no rows of bytes are as they were. -/
structure Nb (w w' : World) : Prop where
  size : w.heap.size ≤ w'.heap.size
  block : ∀ (k : Nat) (o : Obj), w.heap[k]? = some o → (∀ cur fr, o ≠ Obj.cells cur 5 fr) → w'.heap[k]? = some o
theorem Nb.refl (w : World) : Nb w w := ⟨Nat.le_refl _, fun _ _ h _ => h⟩
theorem Nb.trans {a b c : World} (h : Nb a b) (k : Nb b c) : Nb a c := ⟨Nat.le_trans h.size k.size, fun j o hj ho => k.block j o (h.block j o hj ho) ho⟩
theorem Nb.of_below {w w' : World} (h : Below w.heap.size w w') : Nb w w' := ⟨h.size, fun k o hk _ => (h.block k (Array.getElem?_eq_some_iff.1 hk).1).trans hk⟩
theorem Nb.of_row {w w' : World} {B : Nat} {v : Value} {l : List UInt8} (own : Bytes w B v l) (hg : w.grownBy w' v.ownBlock) : Nb w w' := by
  refine ⟨hg.size, fun k o hk ho => (hg.block k (Array.getElem?_eq_some_iff.1 hk).1 fun e => ?_).trans hk⟩
  rcases own.2 with ⟨rfl, _⟩ | ⟨g, cap, cur, rfl, _, h2, _⟩
  · cases e
  · have e : k = g := by
      injection e
    subst e
    rw [h2] at hk
    injection hk with hk
    exact ho cur (0, 0) hk.symm
theorem Nb.node {w w' : World} (h : Nb w w') {b : Nat} {hd : Hd} {vk : Value} (hl : Lies w b (ndO hd vk)) : Lies w' b (ndO hd vk) :=
  h.block b _ hl (fun cur fr e => by
    unfold ndO at e
    injection e with _ e2
    exact absurd e2 (by decide))
end Go.Proofs.Ytmgclgojmckfhaa.Tre
/-
  The document's own show and Show of trees that may be. Conditions: texts of at most 2^46 bytes.
-/
namespace Go.Proofs.Ytmgclgojmckfhaa.Tre
open Tks Go.RowKit
set_option linter.unusedSimpArgs false
set_option linter.unusedVariables false

theorem hex_at : ∀ m : Nat, m < 16 → (⟨#[48, 49, 50, 51, 52, 53, 54, 55, 56, 57, 97, 98, 99, 100, 101, 102]⟩ : ByteArray).data[m]? = some (hexD m)
  | 0, _ => rfl
  | 1, _ => rfl
  | 2, _ => rfl
  | 3, _ => rfl
  | 4, _ => rfl
  | 5, _ => rfl
  | 6, _ => rfl
  | 7, _ => rfl
  | 8, _ => rfl
  | 9, _ => rfl
  | 10, _ => rfl
  | 11, _ => rfl
  | 12, _ => rfl
  | 13, _ => rfl
  | 14, _ => rfl
  | 15, _ => rfl
  | n + 16, h => absurd h (by omega)
theorem hex_get (m : Nat) (h : m < (⟨#[48, 49, 50, 51, 52, 53, 54, 55, 56, 57, 97, 98, 99, 100, 101, 102]⟩ : ByteArray).size) : (⟨#[48, 49, 50, 51, 52, 53, 54, 55, 56, 57, 97, 98, 99, 100, 101, 102]⟩ : ByteArray)[m] = hexD m := by
  have h1 := hex_at m h
  rw [Array.getElem?_eq_getElem h] at h1
  exact Option.some.inj h1
theorem escB_len (c : UInt8) : (escB c).length ≤ 3 := by
  unfold escB
  split <;> simp
/-- The rest of a text. -/
def rest (s : ByteArray) (n : Nat) : List UInt8 := s.data.toList.drop n
theorem rest_zero (s : ByteArray) : rest s 0 = s.data.toList := rfl
theorem rest_nil (s : ByteArray) (n : Nat) (h : s.size ≤ n) : rest s n = [] := List.drop_eq_nil_of_le (by rw [Array.length_toList]; exact h)
theorem rest_cons (s : ByteArray) (n : Nat) (h : n < s.size) : rest s n = s[n] :: rest s (n + 1) := by
  unfold rest
  rw [List.drop_eq_getElem_cons (by rw [Array.length_toList]; exact h)]
  rfl
theorem mem_right {h : Hd} {k f : Fo} (m : MemF h k f) : rightF f = true → rightN h (len k) (rightF k) = true := by
  induction m with
  | head r =>
    intro e
    exact (Bool.and_eq_true_iff.1 (show (rightN h (len k) (rightF k) && rightF r) = true from e)).1
  | tail h' k' r' _ ih =>
    intro e
    exact ih (Bool.and_eq_true_iff.1 (show (rightN h' (len k') (rightF k') && rightF r') = true from e)).2
theorem plain_facts {c : UInt8} (h : plainB c = true) : decide ((c.toNat : Int) < 32) = false ∧ decide ((126 : Int) < (c.toNat : Int)) = false ∧ ((c.toNat : Int) == 34) = false ∧ ((c.toNat : Int) == 92) = false := by
  unfold plainB at h
  simp only [Bool.and_eq_true, decide_eq_true_eq, bne_iff_ne] at h
  obtain ⟨h1, h2, h3, h4⟩ := h
  exact ⟨decide_eq_false (by omega), decide_eq_false (by omega), beq_eq_false_iff_ne.2 (by omega), beq_eq_false_iff_ne.2 (by omega)⟩
theorem other_facts {c : UInt8} (h : plainB c = false) : (c.toNat < 32 ∨ 126 < c.toNat) ∨ (c.toNat = 34 ∨ c.toNat = 92) := by
  unfold plainB at h
  by_cases h1 : c.toNat < 32
  · exact .inl (.inl h1)
  by_cases h2 : 126 < c.toNat
  · exact .inl (.inr h2)
  by_cases h3 : c.toNat = 34
  · exact .inr (.inl h3)
  by_cases h4 : c.toNat = 92
  · exact .inr (.inr h4)
  rw [decide_eq_true (by omega), decide_eq_true (by omega), bne_iff_ne.2 h3, bne_iff_ne.2 h4] at h
  cases h
theorem escL_ge : ∀ t : List UInt8, t.length ≤ (escL t).length
  | [] => Nat.le_refl _
  | c :: t => by
    have := escL_ge t
    have e : (escL (c :: t)).length = (escB c).length + (escL t).length := by
      unfold escL
      rw [List.flatMap_cons, List.length_append]
    have h1 : 1 ≤ (escB c).length := by
      unfold escB
      split <;> simp
    rw [e, List.length_cons]
    omega
end Go.Proofs.Ytmgclgojmckfhaa.Tre
/-
  The document's own Show of trees, and half. Conditions: texts of at most 2^46 bytes.
-/
namespace Go.Proofs.Ytmgclgojmckfhaa.Tre
open Tks Go.RowKit
set_option linter.unusedSimpArgs false
set_option linter.unusedVariables false

end Go.Proofs.Ytmgclgojmckfhaa.Tre
/-
  The document's own number. Conditions: texts of at most 2^46 bytes.
-/
namespace Go.Proofs.Ytmgclgojmckfhaa.Tre
open Tks Go.RowKit
set_option linter.unusedSimpArgs false
set_option linter.unusedVariables false

theorem valL_append : ∀ (a b : List UInt8) (v : Nat), valL v (a ++ b) = valL (valL v a) b
  | [], b, v => rfl
  | c :: a, b, v => valL_append a b (v * 10 + (c.toNat - 48))
theorem digs_head (n : Nat) (l : List UInt8) (h : digs n l ≠ []) : (digs n l).head? = l.head? := by
  cases n with
  | zero => exact absurd rfl h
  | succ n =>
    cases l with
    | nil => exact absurd rfl h
    | cons c r =>
      unfold digs at h ⊢
      split
      · rfl
      · rename_i q
        rw [if_neg q] at h
        exact absurd rfl h
theorem numE_is {l pre : List UInt8} {n : Nat} (h : digs 3 l = pre) (hl : pre.length = n) : numE l = n := by
  unfold numE
  rw [h, hl]
theorem digs_step {c : UInt8} (h : isDig c = true) (m : Nat) (r : List UInt8) : digs (m + 1) (c :: r) = c :: digs m r := by
  conv => lhs; unfold digs
  rw [if_pos h]
theorem digs_zero (l : List UInt8) : digs 0 l = [] := by
  cases l <;> rfl
theorem digs_nil (n : Nat) : digs n [] = [] := by
  cases n <;> rfl
theorem valL_one (v : Nat) (c : UInt8) : valL v [c] = v * 10 + (c.toNat - 48) := rfl
theorem num_wraps {v c q : Nat} (hv : v ≤ 99) (hc : c < 256) (hq : q < 70368744177664) : wrap64 ((v : Int) * 10) = (v : Int) * 10 ∧ wrap64 (c : Int) = (c : Int) ∧ wrap64 ((v : Int) * 10 + (c : Int)) = (v : Int) * 10 + (c : Int) ∧ wrap64 ((v : Int) * 10 + (c : Int) - 48) = (v : Int) * 10 + (c : Int) - 48 ∧ wrap64 ((q : Int) + 1) = (q : Int) + 1 :=
  ⟨IntWalk.wrap64_in _ ⟨by omega, by omega⟩, IntWalk.wrap64_in _ ⟨by omega, by omega⟩, IntWalk.wrap64_in _ ⟨by omega, by omega⟩, IntWalk.wrap64_in _ ⟨by omega, by omega⟩, IntWalk.wrap64_in _ ⟨by omega, by omega⟩⟩
theorem num_end {a b : Int} {p m n q : Nat} (h : a = b) (h2 : m = n) (h3 : p + n = q) : Ending.returned (.tuple #[.int .i64 b, .int .i64 (q : Int)]) = Ending.returned (.tuple #[.int .i64 a, .int .i64 ((p + m : Nat) : Int)]) := by
  rw [h, h2, h3]
def capN : Nat → Nat
  | 0 => 0
  | n + 1 => capN n * 10 + 9
end Go.Proofs.Ytmgclgojmckfhaa.Tre
/-
  The document's own text. Conditions: texts of at most 2^46 bytes.
-/
namespace Go.Proofs.Ytmgclgojmckfhaa.Tre
open Tks Go.RowKit
set_option linter.unusedSimpArgs false
set_option linter.unusedVariables false

def badT : Array Value := #[.string ⟨#[]⟩, .int .i64 (-1)]
/-- What stands in quotes at a place, and where it ends. -/
def textR (s : ByteArray) (p : Nat) : Array Value :=
  if (rest s p).head? = some (byte 34) then (match txtL ((rest s p).drop 1) with
    | none => badT
    | some (t, q) => #[.string ⟨t.toArray⟩, .int .i64 ((s.size - q.length : Nat) : Int)])
  else badT
theorem rest_len (s : ByteArray) (n : Nat) : (rest s n).length = s.size - n := by
  unfold rest
  rw [List.length_drop, Array.length_toList]
  rfl
theorem txt_none {c : UInt8} (h : c.toNat ≠ 34) (hp : plainB c = false) (h2 : c.toNat ≠ 92) (r : List UInt8) : txtL (c :: r) = none := by
  match r with
  | [] => rw [txtL, if_neg h]
  | [d] => rw [txtL, if_neg h, if_neg (by rw [hp]; decide)]
  | a :: b :: r => rw [txtL, if_neg h, if_neg (by rw [hp]; decide), if_neg (fun q => h2 q.1)]
theorem txt_plain2 {c : UInt8} (h : plainB c = true) (r : List UInt8) : txtL (c :: r) = (txtL r).map (fun p => (c :: p.1, p.2)) := by
  by_cases hr : r = []
  · subst hr
    conv => lhs; rw [txtL]
    rw [if_neg (plain_ne h)]
    rfl
  · exact txt_plain h r hr
theorem txt_slash (c : UInt8) (hc : c.toNat = 92) (a b : UInt8) (r : List UInt8) : txtL (c :: a :: b :: r) = if halfL a < 16 ∧ halfL b < 16 ∧ plainB (byte (halfL a * 16 + halfL b)) = false then (txtL r).map (fun p => (byte (halfL a * 16 + halfL b) :: p.1, p.2)) else none := by
  have hp : plainB c = false := by
    unfold plainB
    rw [hc]
    decide
  conv => lhs; rw [txtL]
  rw [if_neg (by omega), if_neg (by rw [hp]; decide)]
  by_cases q : halfL a < 16 ∧ halfL b < 16 ∧ plainB (byte (halfL a * 16 + halfL b)) = false
  · rw [if_pos q, if_pos ⟨hc, q⟩]
  · rw [if_neg q, if_neg (fun h => q h.2)]
theorem txt_short {c : UInt8} (hc : c.toNat = 92) (r : List UInt8) (hr : r.length < 2) : txtL (c :: r) = none := by
  have hp : plainB c = false := by
    unfold plainB
    rw [hc]
    decide
  match r, hr with
  | [], _ => rw [txtL, if_neg (by omega)]
  | [d], _ => rw [txtL, if_neg (by omega), if_neg (by rw [hp]; decide)]
theorem slash_wraps {q q1 q2 q3 n : Nat} (h1 : q + 1 = q1) (h2 : q + 2 = q2) (h3 : q + 3 = q3) (hq : q < n) (hn : n ≤ 70368744177664) : wrap64 ((q : Int) + 1) = (q1 : Int) ∧ IntKind.i64.wrap ((q : Int) + 1) = (q1 : Int) ∧ wrap64 ((q : Int) + 2) = (q2 : Int) ∧ IntKind.i64.wrap ((q : Int) + 2) = (q2 : Int) ∧ wrap64 ((q2 : Int) + 1) = (q3 : Int) ∧ IntKind.i64.wrap ((q2 : Int) + 1) = (q3 : Int) := by
  have e1 : wrap64 ((q : Int) + 1) = (q1 : Int) := by rw [IntWalk.wrap64_in _ ⟨by omega, by omega⟩]; omega
  have e2 : wrap64 ((q : Int) + 2) = (q2 : Int) := by clear e1; rw [IntWalk.wrap64_in _ ⟨by omega, by omega⟩]; omega
  have e3 : wrap64 ((q2 : Int) + 1) = (q3 : Int) := by clear e1 e2; rw [IntWalk.wrap64_in _ ⟨by omega, by omega⟩]; omega
  exact ⟨e1, by rw [IntWalk.i64_left]; exact e1, e2, by rw [IntWalk.i64_left]; exact e2, e3, by rw [IntWalk.i64_left]; exact e3⟩
theorem hex_wraps {x y v : Nat} (hx : x < 16) (hy : y < 16) (hv : v = x * 16 + y) : wrap64 ((x : Int) * 16) = (x : Int) * 16 ∧ IntKind.i64.wrap ((x : Int) * 16) = (x : Int) * 16 ∧ wrap64 ((x : Int) * 16 + (y : Int)) = (x : Int) * 16 + (y : Int) ∧ IntKind.i64.wrap ((x : Int) * 16 + (y : Int)) = (x : Int) * 16 + (y : Int) ∧ IntKind.u8.wrap ((x : Int) * 16 + (y : Int)) = (v : Int) := by
  have e1 : wrap64 ((x : Int) * 16) = (x : Int) * 16 := IntWalk.wrap64_in _ ⟨by omega, by omega⟩
  have e2 : wrap64 ((x : Int) * 16 + (y : Int)) = (x : Int) * 16 + (y : Int) := by clear e1; exact IntWalk.wrap64_in _ ⟨by omega, by omega⟩
  exact ⟨e1, by rw [IntWalk.i64_left]; exact e1, e2, by rw [IntWalk.i64_left]; exact e2, by clear e1 e2; rw [IntKind.wrap_u8]; omega⟩
theorem bdrewN (W : World) (n : Nat) : Below W.heap.size W (W.drewN n) := by
  induction n with
  | zero => exact Below.refl _ _
  | succ n ih => exact ⟨ih.os, ih.tape, ih.output, ih.size, ih.block⟩
theorem dec_no {p : Prop} [Decidable p] (h : ¬ p) : decide p = false := decide_eq_false h
theorem dec_yes {p : Prop} [Decidable p] (h : p) : decide p = true := decide_eq_true h
theorem plain_facts9 {c : UInt8} (h : plainB c = true) : decide ((32 : Int) ≤ (c.toNat : Int)) = true ∧ decide ((c.toNat : Int) ≤ 126) = true ∧ ((c.toNat : Int) != 34) = true ∧ ((c.toNat : Int) != 92) = true := by
  unfold plainB at h
  simp only [Bool.and_eq_true, decide_eq_true_eq, bne_iff_ne] at h
  obtain ⟨h1, h2, h3, h4⟩ := h
  exact ⟨decide_eq_true (by omega), decide_eq_true (by omega), bne_iff_ne.2 (by omega), bne_iff_ne.2 (by omega)⟩
theorem map_none (acc : List UInt8) : (none : Option (List UInt8 × List UInt8)).map (fun r => (acc ++ r.1, r.2)) = none := rfl
end Go.Proofs.Ytmgclgojmckfhaa.Tre
/-
  Rows of trees that a call owns, and where their kids lie. No program is run here.
-/
namespace Go.Proofs.Ytmgclgojmckfhaa.Tre
open Tks Go.RowKit
set_option linter.unusedSimpArgs false
set_option linter.unusedVariables false

theorem infoNd : (Try.prog.info? 30).map (fun i => (i.zero, i.size, i.bytes)) = some (some (.agg #[.int .i64 0, .int .i64 0, .string ⟨#[]⟩, .int .i64 0, .int .i64 0, .slice none 0 0]), 6, 72) := by kernel_rfl
/-- A tree of a row that the call owns: its head, its kids, and the slice that holds these. -/
structure Nv where
  h : Hd
  k : Fo
  v : Value
def ndC (x : Nv) : List Value := [.int .i64 x.h.kind, .int .i64 x.h.form, .string x.h.text, .int .i64 x.h.line, .int .i64 x.h.col, x.v]
theorem nd_len (x : Nv) : (ndC x).length = 6 := rfl
def foL : List Nv → Fo
  | [] => .nil
  | x :: r => .cons x.h x.k (foL r)
theorem len_foL : ∀ l : List Nv, len (foL l) = l.length
  | [] => rfl
  | x :: r => by
    show len (foL r) + 1 = r.length + 1
    rw [len_foL r]
def appF : Fo → Fo → Fo
  | .nil, g => g
  | .cons h k r, g => .cons h k (appF r g)
theorem appF_nil : ∀ f : Fo, appF f .nil = f
  | .nil => rfl
  | .cons h k r => by
    show Fo.cons h k (appF r .nil) = _
    rw [appF_nil r]
theorem appF_foL : ∀ (l : List Nv) (x : Nv) (g : Fo), appF (foL (l ++ [x])) g = appF (foL l) (.cons x.h x.k g)
  | [], x, g => rfl
  | y :: r, x, g => by
    show Fo.cons y.h y.k (appF (foL (r ++ [x])) g) = Fo.cons y.h y.k (appF (foL r) (.cons x.h x.k g))
    rw [appF_foL r x g]
/-- A row of trees lies there, all its kids in blocks of which P holds. -/
def FoOn (w : World) (P : Nat → Prop) : Fo → Nat → Nat → Prop
  | .nil, _, _ => True
  | .cons h k r, b, off =>
    (∃ vk, w.cell? ⟨b, off, none⟩ = some (.int .i64 h.kind) ∧ w.cell? ⟨b, off + 1, none⟩ = some (.int .i64 h.form) ∧ w.cell? ⟨b, off + 2, none⟩ = some (.string h.text) ∧ w.cell? ⟨b, off + 3, none⟩ = some (.int .i64 h.line) ∧ w.cell? ⟨b, off + 4, none⟩ = some (.int .i64 h.col) ∧ w.cell? ⟨b, off + 5, none⟩ = some vk ∧
      ((k = .nil ∧ ∃ a c, vk = .slice a 0 c) ∨ ∃ b2 off2 c, vk = .slice (some ⟨b2, off2, none⟩) (len k) c ∧ len k ≤ maxLen ∧ b2 < w.heap.size ∧ P b2 ∧ FoOn w P k b2 off2)) ∧
    FoOn w P r b (off + 6)
def KOn (w : World) (P : Nat → Prop) (v : Value) (k : Fo) : Prop :=
  (k = .nil ∧ ∃ a c, v = .slice a 0 c) ∨ ∃ b off c, v = .slice (some ⟨b, off, none⟩) (len k) c ∧ len k ≤ maxLen ∧ b < w.heap.size ∧ P b ∧ FoOn w P k b off
theorem FoOn.in {w : World} {P : Nat → Prop} : ∀ (f : Fo) (b off : Nat), FoOn w P f b off → FoIn w f b off
  | .nil, _, _, _ => trivial
  | .cons h k r, b, off, ⟨⟨vk, c0, c1, c2, c3, c4, c5, hk⟩, hr⟩ => by
    refine ⟨⟨vk, c0, c1, c2, c3, c4, c5, ?_⟩, FoOn.in r b (off + 6) hr⟩
    rcases hk with h1 | ⟨b2, off2, c, e, hm, h1, _, h2⟩
    · exact .inl h1
    · exact .inr ⟨b2, off2, c, e, hm, h1, FoOn.in k b2 off2 h2⟩
theorem KOn.arg {w : World} {P : Nat → Prop} {v : Value} {k : Fo} (h : KOn w P v k) : KArg w v k := by
  rcases h with h | ⟨b, off, c, e, hm, h1, _, h2⟩
  · exact .inl h
  · exact .inr ⟨b, off, c, e, hm, h1, h2.in⟩
theorem KOn.nil (w : World) (P : Nat → Prop) (a : Option Addr) (c : Nat) : KOn w P (.slice a 0 c) .nil := .inl ⟨rfl, a, c, rfl⟩
theorem FoOn.kept {w w' : World} {P P' : Nat → Prop} (hs : w.heap.size ≤ w'.heap.size) (hk : ∀ b, b < w.heap.size → P b → w'.heap[b]? = w.heap[b]? ∧ P' b) : ∀ (f : Fo) (b off : Nat), w'.heap[b]? = w.heap[b]? → FoOn w P f b off → FoOn w' P' f b off
  | .nil, _, _, _, _ => trivial
  | .cons h k r, b, off, hb, ⟨⟨vk, c0, c1, c2, c3, c4, c5, hq⟩, hr⟩ => by
    have hc : ∀ o, w'.cell? ⟨b, o, none⟩ = w.cell? ⟨b, o, none⟩ := fun o => World.cell?_of_block hb
    refine ⟨⟨vk, (hc _).trans c0, (hc _).trans c1, (hc _).trans c2, (hc _).trans c3, (hc _).trans c4, (hc _).trans c5, ?_⟩, FoOn.kept hs hk r b (off + 6) hb hr⟩
    rcases hq with h1 | ⟨b2, off2, c, e, hm, h1, hp, h2⟩
    · exact .inl h1
    · exact .inr ⟨b2, off2, c, e, hm, Nat.lt_of_lt_of_le h1 hs, (hk b2 h1 hp).2, FoOn.kept hs hk k b2 off2 (hk b2 h1 hp).1 h2⟩
theorem KOn.kept {w w' : World} {P P' : Nat → Prop} {v : Value} {k : Fo} (h : KOn w P v k) (hs : w.heap.size ≤ w'.heap.size) (hk : ∀ b, b < w.heap.size → P b → w'.heap[b]? = w.heap[b]? ∧ P' b) : KOn w' P' v k := by
  rcases h with h | ⟨b, off, c, e, hm, h1, hp, h2⟩
  · exact .inl h
  · exact .inr ⟨b, off, c, e, hm, Nat.lt_of_lt_of_le h1 hs, (hk b h1 hp).2, FoOn.kept hs hk k b off (hk b h1 hp).1 h2⟩
theorem KOn.below {w w' : World} {P : Nat → Prop} {v : Value} {k : Fo} {B : Nat} (h : KOn w P v k) (hb : Below B w w') (hB : w.heap.size ≤ B) : KOn w' P v k :=
  h.kept hb.size (fun b hlt hp => ⟨hb.block b (Nat.lt_of_lt_of_le hlt hB), hp⟩)
theorem KOn.less {w : World} {P P' : Nat → Prop} {v : Value} {k : Fo} (h : KOn w P v k) (hp : ∀ b, P b → P' b) : KOn w P' v k := h.kept (Nat.le_refl _) (fun b _ q => ⟨rfl, hp b q⟩)
theorem KOn.one {w : World} {P : Nat → Prop} {v : Value} {k : Fo} (h : KOn w P v k) : v.oneCell' = true := by
  rcases h with ⟨_, a, c, rfl⟩ | ⟨b, off, c, rfl, _⟩ <;> rfl
theorem KOn.len {w : World} {P : Nat → Prop} {v : Value} {k : Fo} (h : KOn w P v k) : ∃ a c, v = .slice a (len k) c := h.arg.len
/-- A row of trees of the call's own; the kids lie in other blocks of its own. -/
structure NdOwn (w : World) (B : Nat) (v : Value) (l : List Nv) : Prop where
  row : w.ownsRow B 30 6 v l.length (l.flatMap ndC)
  kid : ∀ x ∈ l, KOn w (fun b => B ≤ b ∧ v.ownBlock ≠ some b) x.v x.k
theorem NdOwn.nil (w : World) (B : Nat) : NdOwn w B (.slice none 0 0) [] := ⟨World.ownsRow_nil _ _ _ _, fun x hx => by cases hx⟩
theorem NdOwn.slice {w : World} {B : Nat} {v : Value} {l : List Nv} (h : NdOwn w B v l) : ∃ a c, v = .slice a l.length c := own_len h.row
theorem NdOwn.below {w w' : World} {B C : Nat} {v : Value} {l : List Nv} (h : NdOwn w B v l) (hb : Below C w w') (hC : w.heap.size ≤ C) : NdOwn w' B v l := by
  have hg : w.grownBy w' none := ⟨hb.os, hb.tape, hb.output, hb.size, fun k hk _ => hb.block k (by omega)⟩
  refine ⟨?_, fun x hx => (h.kid x hx).below hb hC⟩
  rcases hv : v.ownBlock with _ | g
  · exact World.ownsRow.kept h.row hg (.inl hv)
  · exact World.ownsRow.kept h.row hg (.inr (by rw [hv]; simp))
theorem NdOwn.push {w w' : World} {B : Nat} {v v' : Value} {l : List Nv} {x : Nv} (h : NdOwn w B v l) (hx : KOn w (fun b => B ≤ b ∧ v.ownBlock ≠ some b) x.v x.k)
    (hn : w'.ownsRow B 30 6 v' (l.length + 1) (l.flatMap ndC ++ ndC x)) (hg : w.grownBy w' v.ownBlock) (ha : v'.ownBlock = v.ownBlock ∨ v'.ownBlock = some w.heap.size) : NdOwn w' B v' (l ++ [x]) := by
  refine ⟨by rw [List.length_append, List.flatMap_append]; simpa using hn, fun y hy => ?_⟩
  have hy2 : KOn w (fun b => B ≤ b ∧ v.ownBlock ≠ some b) y.v y.k := by
    rcases List.mem_append.1 hy with hy | hy
    · exact h.kid y hy
    · obtain rfl : y = x := by simpa using hy
      exact hx
  refine hy2.kept hg.size (fun b hlt hp => ⟨hg.block b hlt (fun e => hp.2 e.symm), hp.1, fun e => ?_⟩)
  rcases ha with q | q
  · exact hp.2 (q ▸ e)
  · rw [q] at e
    injection e with e
    omega
theorem fo_cells {w : World} {P : Nat → Prop} {b : Nat} : ∀ (l : List Nv) (off : Nat), (∀ (i : Nat) (x : Nv), l[i]? = some x → ∀ k : Nat, k < 6 → w.cell? ⟨b, off + i * 6 + k, none⟩ = (ndC x)[k]?) → (∀ x ∈ l, KOn w P x.v x.k) → FoOn w P (foL l) b off
  | [], _, _, _ => trivial
  | x :: r, off, hc, hk => by
    have h0 := hc 0 x rfl
    simp only [Nat.zero_mul, Nat.add_zero] at h0
    refine ⟨⟨x.v, h0 0 (by omega), h0 1 (by omega), h0 2 (by omega), h0 3 (by omega), h0 4 (by omega), h0 5 (by omega), hk x (List.mem_cons_self ..)⟩, fo_cells r (off + 6) (fun i y hy k hk6 => ?_) (fun y hy => hk y (List.mem_cons_of_mem _ hy))⟩
    have := hc (i + 1) y hy k hk6
    rw [show off + 6 + i * 6 + k = off + (i + 1) * 6 + k from by omega]
    exact this
theorem NdOwn.on {w : World} {B : Nat} {v : Value} {l : List Nv} (h : NdOwn w B v l) (hm : l.length ≤ maxLen) : KOn w (fun b => B ≤ b) v (foL l) := by
  have hr := h.row
  rcases hr.2 with ⟨rfl, h0⟩ | ⟨g, cap, cur, rfl, hb, hg, _⟩
  · obtain rfl : l = [] := List.eq_nil_of_length_eq_zero h0
    exact .inl ⟨rfl, _, _, rfl⟩
  · refine .inr ⟨g, 0, cap, by rw [len_foL], by rw [len_foL]; exact hm, lt_of_block hg, hb, fo_cells l 0 (fun i x hx k hk => ?_) (fun x hx => (h.kid x hx).less (fun b hp => hp.1))⟩
    have h0 := flat_at ndC 6 nd_len l i k x hx hk
    obtain ⟨u, hu⟩ : ∃ u, (ndC x)[k]? = some u := ⟨_, List.getElem?_eq_getElem (by rw [nd_len]; exact hk)⟩
    rw [hu] at h0 ⊢
    have := World.ownsRow.cells hr (g := g) rfl _ _ h0
    rw [add_plain] at this
    rw [Nat.zero_add]
    exact this
theorem ndC_one {w : World} {P : Nat → Prop} {x : Nv} (h : KOn w P x.v x.k) : ∀ u ∈ ndC x, u.oneCell' = true := by
  intro u hu
  simp only [ndC, List.mem_cons, List.not_mem_nil, or_false] at hu
  rcases hu with rfl | rfl | rfl | rfl | rfl | rfl <;> first | rfl | exact h.one
/-- append of one tree: the same block, or a new one. -/
theorem append_nd (w : World) {ops : Array Oper} {rest : List Oper} {o : Oper} {a : Act} {Q : Exit → Act → World → Prop} (hg : o.guard = none) (sl x : Operand) (hop : o.op = Op.call { callee := Callee.builtin Builtin.append, args := #[sl, x], argTypes := #[28, 28] })
    (base : Nat) (v : Value) (l : List Nv) (hs : a.eval sl = v) (hown : NdOwn w base v l) (ad : Addr) (t : Nv) (c : Nat) (hx : a.eval x = .slice (some ad) 1 c) (hc : ∀ (j : Nat) u, (ndC t)[j]? = some u → w.cell? (ad.add j) = some u) (ht : KOn w (fun b => base ≤ b ∧ v.ownBlock ≠ some b) t.v t.k) (b1 : l.length + 1 ≤ 1099511627776) (hB : base ≤ w.heap.size)
    (hK : ∀ v' w', NdOwn w' base v' (l ++ [t]) → w.grownBy w' v.ownBlock → (v'.ownBlock = v.ownBlock ∨ v'.ownBlock = some w.heap.size) → wpList Try.prog ops Q rest (a.put o.dst v') w') :
    wpList Try.prog ops Q (o :: rest) a w := by
  obtain ⟨i0, hi, hz0, hz1, hz2⟩ := info_parts infoNd
  refine wpList_append_own_at w hg sl x 28 hop base 30 i0 _ 6 72 Try.underlying28 hi hz0 hz1 hz2 rfl (by decide) v l.length (l.flatMap ndC) hs hown.row ad 1 c (ndC t) hx rfl hc (ndC_one ht) (by unfold maxLen; omega) (by omega) hB ?_
  intro v' w' h1 h2 _ h4
  exact hK v' w' (hown.push ht h1 h2 h4) h2 h4
/-- The same, within a region that draws. -/
theorem step_nd (w : World) {ops : Array Oper} {o : Oper} {a : Act} {K : Act → World → Prop} {Q : Exit → Act → World → Prop} {E : Prop} (hg : o.guard = none) (sl x : Operand) (hop : o.op = Op.call { callee := Callee.builtin Builtin.append, args := #[sl, x], argTypes := #[28, 28] })
    (base : Nat) (v : Value) (l : List Nv) (hs : a.eval sl = v) (hown : NdOwn w base v l) (ad : Addr) (t : Nv) (c : Nat) (hx : a.eval x = .slice (some ad) 1 c) (hc : ∀ (j : Nat) u, (ndC t)[j]? = some u → w.cell? (ad.add j) = some u) (ht : KOn w (fun b => base ≤ b ∧ v.ownBlock ≠ some b) t.v t.k) (b1 : l.length + 1 ≤ 1099511627776) (hB : base ≤ w.heap.size)
    (hK : ∀ h cap w', NdOwn w' base (.slice (some ⟨h, 0, none⟩) (l.length + 1) cap) (l ++ [t]) → w.grownBy w' v.ownBlock → (v.ownBlock = some h ∨ h = w.heap.size) → K (a.put o.dst (.slice (some ⟨h, 0, none⟩) (l.length + 1) cap)) w') :
    if Region.wanted o (yielded ops a.tmps) = true then Oper.wp Try.prog o a w K Q else E := by
  obtain ⟨i0, hi, hz0, hz1, hz2⟩ := info_parts infoNd
  refine step_append_lies w hg sl x 28 hop base 30 i0 _ 6 72 Try.underlying28 hi hz0 hz1 hz2 rfl (by decide) v l.length (l.flatMap ndC) hs hown.row ad 1 c (ndC t) hx rfl hc (ndC_one ht) (by decide) (by unfold maxLen; omega) (by omega) hB w.heap.size rfl ?_
  intro h cap w' h1 h2 h3 _
  refine hK h cap w' (hown.push ht h1 h2 ?_) h2 h3
  rcases h3 with q | q
  · exact .inl q.symm
  · right
    rw [q]
    rfl
/-- What is read of the kids, behind those that were read. -/
def behind (a : Fo) (r : Except Int (Fo × List UInt8)) : Except Int (Fo × List UInt8) :=
  match r with
  | .error e => .error e
  | .ok (fo, q) => .ok (appF a fo, q)
theorem behind_nil (r : Except Int (Fo × List UInt8)) : behind .nil r = r := by
  unfold behind
  cases r with
  | error e => rfl
  | ok p => rfl
theorem readT_ks (deep : Nat) (l : List UInt8) : readT deep l = nodeR (readKs (deep + 1)) deep l :=
  node_congr deep l (fun q hq => read_fuel _ _ _ q (by omega) (by omega))
theorem behind_kid {deep : Nat} {l : List UInt8} {a : List Nv} {x : Nv} {q : List UInt8} (h32 : l.head? = some (byte 32)) (hx : readT deep (l.drop 1) = .ok (x.h, x.k, q)) : behind (foL a) (readKs deep l) = behind (foL (a ++ [x])) (readKs deep q) := by
  rw [readKs_step deep l, if_pos h32, hx]
  dsimp only
  cases readKs deep q with
  | error e => rfl
  | ok p =>
    obtain ⟨fo, q2⟩ := p
    show Except.ok (appF (foL a) (.cons x.h x.k fo), q2) = Except.ok (appF (foL (a ++ [x])) fo, q2)
    rw [appF_foL]
theorem behind_bad {deep : Nat} {l : List UInt8} {a : Fo} {e : Int} (h32 : l.head? = some (byte 32)) (hx : readT deep (l.drop 1) = .error e) : behind a (readKs deep l) = .error e := by
  rw [readKs_step deep l, if_pos h32, hx]
  rfl
theorem behind_end {deep : Nat} {l : List UInt8} {a : Fo} (h32 : l.head? ≠ some (byte 32)) : behind a (readKs deep l) = .ok (a, l) := by
  rw [readKs_step deep l, if_neg h32]
  show Except.ok (appF a .nil, l) = _
  rw [appF_nil]
theorem readT_short {deep : Nat} {l q : List UInt8} {h : Hd} {k : Fo} (hh : readT deep l = .ok (h, k, q)) : q.length < l.length :=
  node_short (fun l k q hq => again_kids _ _ l q k hq) hh
end Go.Proofs.Ytmgclgojmckfhaa.Tre
/-
  Trees in memory under stores into other blocks; what one more kid leaves behind. No program is run here.
-/
namespace Go.Proofs.Ytmgclgojmckfhaa.Tre
open Tks Go.RowKit
set_option linter.unusedSimpArgs false
set_option linter.unusedVariables false

theorem heap_set {W : World} {p : Addr} {v : Value} {k : Nat} (h : k ≠ p.block) : (W.setCell p v).heap[k]? = W.heap[k]? := Below.heap_setCell _ _ _ _ h
def set6 (W : World) (B : Nat) (a b c d e f : Value) : World := (((((W.setCell ⟨B, 0, none⟩ a).setCell ⟨B, 1, none⟩ b).setCell ⟨B, 2, none⟩ c).setCell ⟨B, 3, none⟩ d).setCell ⟨B, 4, none⟩ e).setCell ⟨B, 5, none⟩ f
theorem set6_below {n B : Nat} {W W1 : World} (h : Below n W W1) (hB : n ≤ B) (a b c d e f : Value) : Below n W (set6 W1 B a b c d e f) :=
  (((((h.setCell (p := ⟨B, 0, none⟩) hB a).setCell (p := ⟨B, 1, none⟩) hB b).setCell (p := ⟨B, 2, none⟩) hB c).setCell (p := ⟨B, 3, none⟩) hB d).setCell (p := ⟨B, 4, none⟩) hB e).setCell (p := ⟨B, 5, none⟩) hB f
theorem set6_size (W : World) (B : Nat) (a b c d e f : Value) : (set6 W B a b c d e f).heap.size = W.heap.size := by
  unfold set6
  rw [World.size_setCell, World.size_setCell, World.size_setCell, World.size_setCell, World.size_setCell, World.size_setCell]
theorem set6_keep (W : World) {B k : Nat} (h : k ≠ B) (a b c d e f : Value) : (set6 W B a b c d e f).heap[k]? = W.heap[k]? := by
  unfold set6
  rw [heap_set h, heap_set h, heap_set h, heap_set h, heap_set h, heap_set h]
theorem KOn.set6 {W : World} {P : Nat → Prop} {v : Value} {k : Fo} (h : KOn W P v k) {B : Nat} (hP : ∀ b, P b → b ≠ B) (a b c d e f : Value) : KOn (set6 W B a b c d e f) P v k :=
  h.kept (by rw [set6_size]; exact Nat.le_refl _) (fun b hb hp => ⟨set6_keep W (hP b hp) .., hp⟩)
theorem KOn.set {W : World} {P : Nat → Prop} {v : Value} {k : Fo} (h : KOn W P v k) {p : Addr} (hP : ∀ b, P b → b ≠ p.block) (a : Value) : KOn (W.setCell p a) P v k :=
  h.kept (by rw [World.size_setCell]; exact Nat.le_refl _) (fun b hb hp => ⟨heap_set (hP b hp), hp⟩)
theorem own_set {w : World} {B size n : Nat} {e : TypeId} {v : Value} {xs : List Value} {a : Addr} (h : w.ownsRow B e size v n xs) (ha : a.block < B) (u : Value) : (w.setCell a u).ownsRow B e size v n xs :=
  ownsRow_setCell_below h ha u
theorem NdOwn.set {W : World} {B : Nat} {v : Value} {l : List Nv} (h : NdOwn W B v l) {p : Addr} (hp : p.block < B) (a : Value) : NdOwn (W.setCell p a) B v l :=
  ⟨own_set h.row hp a, fun x hx => (h.kid x hx).set (fun b hb e => by have := hb.1; omega) a⟩
theorem NdOwn.set6 {W : World} {B : Nat} {v : Value} {l : List Nv} (h : NdOwn W B v l) {b : Nat} (hp : b < B) (c0 c1 c2 c3 c4 c5 : Value) : NdOwn (set6 W b c0 c1 c2 c3 c4 c5) B v l :=
  (((((h.set (p := ⟨b, 0, none⟩) hp c0).set (p := ⟨b, 1, none⟩) hp c1).set (p := ⟨b, 2, none⟩) hp c2).set (p := ⟨b, 3, none⟩) hp c3).set (p := ⟨b, 4, none⟩) hp c4).set (p := ⟨b, 5, none⟩) hp c5
theorem Lies.other {W : World} {B : Nat} {o : Obj} (h : Lies W B o) {p : Addr} (hp : B ≠ p.block) (v : Value) : Lies (W.setCell p v) B o := (heap_set hp).trans h
theorem Lies.put {W : World} {B : Nat} {cs : Array Value} {t : TypeId} {fr : Nat × Nat} (h : Lies W B (.cells cs t fr)) (j : Nat) (u : Value) : Lies (W.setCell ⟨B, j, none⟩ u) B (.cells (cs.setIfInBounds j u) t fr) := by
  unfold Lies at h ⊢
  unfold World.setCell
  rw [Array.getElem?_modify, if_pos rfl, h]
  simp
theorem Lies.set5 {W : World} {B : Nat} {h : Hd} {vk : Value} (q : Lies W B (ndO h vk)) (v : Value) : Lies (W.setCell ⟨B, 5, none⟩ v) B (ndO h v) := Lies.put q 5 v
theorem Lies.set1 {W : World} {B : Nat} {h : Hd} {vk : Value} (q : Lies W B (ndO h vk)) (x : Int) : Lies (W.setCell ⟨B, 1, none⟩ (.int .i64 x)) B (ndO ⟨h.kind, x, h.text, h.line, h.col⟩ vk) := Lies.put q 1 _
theorem Lies.all6 {W : World} {B : Nat} {h : Hd} {vk : Value} (q : Lies W B (ndO h vk)) (g : Hd) (v : Value) : Lies (Tre.set6 W B (.int .i64 g.kind) (.int .i64 g.form) (.string g.text) (.int .i64 g.line) (.int .i64 g.col) v) B (ndO g v) := Lies.put (Lies.put (Lies.put (Lies.put (Lies.put (Lies.put q 0 _) 1 _) 2 _) 3 _) 4 _) 5 _
theorem Lies.free {W : World} {B : Nat} {cs : Array Value} {t : TypeId} (h : Lies W B (.cells cs t)) (j : Nat) : W.frozen? ⟨B, j, none⟩ = false := by simp [World.frozen?, show W.heap[B]? = _ from h]
theorem Lies.nodef {W : World} {B : Nat} {h : Hd} {vk : Value} (q : Lies W B (ndO h vk)) :
    (W.cell? ⟨B, 0, none⟩ = some (.int .i64 h.kind) ∧ W.cell? ⟨B, 1, none⟩ = some (.int .i64 h.form) ∧ W.cell? ⟨B, 2, none⟩ = some (.string h.text) ∧ W.cell? ⟨B, 3, none⟩ = some (.int .i64 h.line) ∧ W.cell? ⟨B, 4, none⟩ = some (.int .i64 h.col) ∧ W.cell? ⟨B, 5, none⟩ = some vk) ∧
    W.frozen? ⟨B, 0, none⟩ = false ∧ W.frozen? ⟨B, 1, none⟩ = false ∧ W.frozen? ⟨B, 2, none⟩ = false ∧ W.frozen? ⟨B, 3, none⟩ = false ∧ W.frozen? ⟨B, 4, none⟩ = false ∧ W.frozen? ⟨B, 5, none⟩ = false :=
  ⟨q.node, q.free 0, q.free 1, q.free 2, q.free 3, q.free 4, q.free 5⟩
theorem NdOwn.lt {w : World} {B : Nat} {v : Value} {l : List Nv} (h : NdOwn w B v l) {b : Nat} (e : v.ownBlock = some b) : B ≤ b ∧ b < w.heap.size := World.ownsRow.lt h.row b e
/-- A kid that a call has just made may be laid into the row. -/
theorem kid_ready {wr w6 W2 : World} {B0 : Nat} {av : Value} {acc : List Nv} {vk : Value} {k1 : Fo} (hO : NdOwn wr B0 av acc) (hB : B0 ≤ wr.heap.size) (hk : KOn w6 (fun b => wr.heap.size ≤ b) vk k1) (h2 : Below w6.heap.size w6 W2) : KOn W2 (fun b => B0 ≤ b ∧ av.ownBlock ≠ some b) vk k1 :=
  (hk.below h2 (Nat.le_refl _)).less (fun b hb => ⟨by omega, fun e => by have := (hO.lt e).2; omega⟩)
theorem grown_lies {W w3 : World} {B0 B : Nat} {av : Value} {acc : List Nv} {o : Obj} (hO : NdOwn W B0 av acc) (hg : W.grownBy w3 av.ownBlock) (hL : Lies W B o) (hB : B < B0) : Lies w3 B o :=
  (hg.block B hL.lt (fun e => by have := (hO.lt e.symm).1; omega)).trans hL
theorem grown_below {W w3 w : World} {C B0 : Nat} {av : Value} {acc : List Nv} (hb : Below C w W) (hC : C ≤ B0) (hB : B0 ≤ W.heap.size) (hO : NdOwn W B0 av acc) (hg : W.grownBy w3 av.ownBlock) : Below C w w3 :=
  Below.grown hb hg (by omega) (fun k hk => by have := (hO.lt hk).1; omega)
end Go.Proofs.Ytmgclgojmckfhaa.Tre
/-
  The document's own Leaves of trees. Conditions: at most 2^40 nodes.
-/
namespace Go.Proofs.Ytmgclgojmckfhaa.Tre
open Tks Go.RowKit
set_option linter.unusedSimpArgs false
set_option linter.unusedVariables false

def leavesN (h : Hd) (k : Fo) : List Tk := if h.kind = 1 then [tokH h] else leavesF k
theorem leaves_le : ∀ f : Fo, (leavesF f).length ≤ sizeF f
  | .nil => Nat.le_refl _
  | .cons h k r => by
    have := leaves_le k
    have := leaves_le r
    simp only [leavesF, sizeF, List.length_append]
    split
    · simp only [List.length_cons, List.length_nil]
      omega
    · omega
theorem Own.cat {w : World} {B : Nat} {v : Value} {a b : List Tk} (h : w.ownsRow B 47 4 v (a.length + b.length) (a.flatMap tkC ++ b.flatMap tkC)) : Own w B v (a ++ b) := by
  unfold Own
  rw [List.length_append, List.flatMap_append]
  exact h
theorem Own.less {w : World} {A B : Nat} {v : Value} {l : List Tk} (h : Own w B v l) (hb : A ≤ B) : Own w A v l :=
  ⟨h.1, h.2.imp id fun ⟨g, cap, cur, h1, h2, h3⟩ => ⟨g, cap, cur, h1, Nat.le_trans hb h2, h3⟩⟩
end Go.Proofs.Ytmgclgojmckfhaa.Tre
