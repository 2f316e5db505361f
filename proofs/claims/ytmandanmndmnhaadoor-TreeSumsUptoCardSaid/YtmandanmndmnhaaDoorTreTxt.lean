/-
  The texts of trees, and what is read of a text: numbers, quoted texts. No program is run here.
-/
import Derived.Test.YtmandanmndmnhaaDoorTreMath
namespace Go.Proofs.YtmandanmndmnhaaDoor.Tre
open Tks Go.RowKit
set_option linter.unusedSimpArgs false
set_option linter.unusedVariables false

def byte (n : Nat) : UInt8 := UInt8.ofNat n
theorem byte_nat (n : Nat) (h : n < 256) : (byte n).toNat = n := by
  unfold byte
  rw [UInt8.toNat_ofNat']
  omega
theorem byte_eq {c : UInt8} {n : Nat} (h : c.toNat = n) : c = byte n := by
  subst h
  unfold byte
  exact (UInt8.ofNat_toNat).symm
theorem byte_toNat (c : UInt8) : byte c.toNat = c := (byte_eq rfl).symm
theorem nat_lt (c : UInt8) : c.toNat < 256 := c.toNat_lt
/-- A number of at most two digits. -/
def digL (n : Nat) : List UInt8 := if n < 10 then [byte (48 + n)] else [byte (48 + n / 10), byte (48 + n % 10)]
def isDig (c : UInt8) : Bool := decide (48 ≤ c.toNat) && decide (c.toNat ≤ 57)
def digs : Nat → List UInt8 → List UInt8
  | 0, _ => []
  | _ + 1, [] => []
  | n + 1, c :: r => if isDig c = true then c :: digs n r else []
def valL : Nat → List UInt8 → Nat
  | v, [] => v
  | v, c :: r => valL (v * 10 + (c.toNat - 48)) r
/-- The number that begins there (-1: none), and how many bytes it has. -/
def numL (l : List UInt8) : Int := if digs 3 l = [] ∨ ((digs 3 l).head? = some (byte 48) ∧ 1 < (digs 3 l).length) then -1 else (valL 0 (digs 3 l) : Int)
def numE (l : List UInt8) : Nat := (digs 3 l).length
theorem digs_take : ∀ (n : Nat) (l : List UInt8), l = digs n l ++ l.drop (digs n l).length
  | 0, l => by simp [digs]
  | n + 1, [] => by simp [digs]
  | n + 1, c :: r => by
    unfold digs
    split
    · rw [List.length_cons, List.drop_succ_cons, List.cons_append, ← digs_take n r]
    · simp
theorem digs_le : ∀ (n : Nat) (l : List UInt8), (digs n l).length ≤ n
  | 0, l => by simp [digs]
  | n + 1, [] => by simp [digs]
  | n + 1, c :: r => by
    unfold digs
    split
    · rw [List.length_cons]
      have := digs_le n r
      omega
    · simp
theorem digs_len (n : Nat) (l : List UInt8) : (digs n l).length ≤ l.length := by
  have := congrArg List.length (digs_take n l)
  rw [List.length_append] at this
  omega
theorem digs_all : ∀ (n : Nat) (l : List UInt8), ∀ c ∈ digs n l, isDig c = true
  | 0, l, c, h => by simp [digs] at h
  | n + 1, [], c, h => by simp [digs] at h
  | n + 1, d :: r, c, h => by
    unfold digs at h
    split at h
    · rename_i hd
      rcases List.mem_cons.1 h with rfl | h
      · exact hd
      · exact digs_all n r c h
    · cases h
/-- No digit stands there. -/
def NoDig (l : List UInt8) : Prop := ∀ c r, l = c :: r → isDig c = false
theorem digs_no (n : Nat) {l : List UInt8} (h : NoDig l) : digs n l = [] := by
  cases n with
  | zero => rfl
  | succ n =>
    cases l with
    | nil => rfl
    | cons c r =>
      unfold digs
      rw [if_neg (by rw [h c r rfl]; decide)]
theorem isDig_byte (n : Nat) (h : n < 10) : isDig (byte (48 + n)) = true := by
  unfold isDig
  rw [byte_nat _ (by omega), decide_eq_true (by omega), decide_eq_true (by omega)]
  rfl
theorem isDig_off {c : UInt8} (h : isDig c = true) : ∃ n, n < 10 ∧ c = byte (48 + n) := by
  unfold isDig at h
  simp only [Bool.and_eq_true, decide_eq_true_eq] at h
  exact ⟨c.toNat - 48, by omega, by rw [show 48 + (c.toNat - 48) = c.toNat from by omega]; exact (byte_toNat c).symm⟩
theorem byte_inj {a b : Nat} (ha : a < 256) (hb : b < 256) (h : byte a = byte b) : a = b := by
  rw [← byte_nat a ha, ← byte_nat b hb, h]
/-- What is written as a number is read as it. -/
theorem num_dig (n : Nat) (hn : n < 100) (r : List UInt8) (hr : NoDig r) : numL (digL n ++ r) = (n : Int) ∧ numE (digL n ++ r) = (digL n).length := by
  have hd : digs 3 (digL n ++ r) = digL n := by
    unfold digL
    split
    · rename_i h
      simp only [List.cons_append, List.nil_append, digs]
      rw [if_pos (isDig_byte n h), digs_no 2 hr]
    · simp only [List.cons_append, List.nil_append, digs]
      rw [if_pos (isDig_byte (n / 10) (by omega)), if_pos (isDig_byte (n % 10) (by omega)), digs_no 1 hr]
  refine ⟨?_, by unfold numE; rw [hd]⟩
  unfold numL
  rw [hd]
  unfold digL
  split
  · rename_i h
    have e : (byte (48 + n)).toNat = 48 + n := byte_nat _ (by omega)
    rw [if_neg (fun q => q.elim (fun q => List.cons_ne_nil _ _ q) (fun q => absurd q.2 (Nat.lt_irrefl 1)))]
    show ((0 * 10 + ((byte (48 + n)).toNat - 48) : Nat) : Int) = (n : Int)
    rw [e]
    omega
  · rename_i h
    have e1 : (byte (48 + n / 10)).toNat = 48 + n / 10 := byte_nat _ (by omega)
    have e2 : (byte (48 + n % 10)).toNat = 48 + n % 10 := byte_nat _ (by omega)
    rw [if_neg]
    · show ((((0 * 10 + ((byte (48 + n / 10)).toNat - 48)) * 10 + ((byte (48 + n % 10)).toNat - 48) : Nat)) : Int) = (n : Int)
      rw [e1, e2]
      omega
    · rintro (q | ⟨q, -⟩)
      · cases q
      · simp only [List.head?_cons, Option.some.injEq] at q
        have := byte_inj (by omega) (by omega) q
        omega
/-- What is read as a number is written so. -/
theorem dig_num (l : List UInt8) (n : Nat) (hn : n < 100) (h : numL l = (n : Int)) : digs 3 l = digL n := by
  unfold numL at h
  split at h
  · omega
  · rename_i hq
    have hle := digs_le 3 l
    have hall := digs_all 3 l
    generalize digs 3 l = d at *
    match d, hle, hall, hq, h with
    | [], _, _, hq, _ => exact absurd (.inl rfl) hq
    | [a], _, hall, _, h =>
      obtain ⟨x, hx, ea⟩ := isDig_off (hall a (List.mem_cons_self ..))
      have e1 : a.toNat = 48 + x := by rw [ea]; exact byte_nat _ (by omega)
      have h : ((0 * 10 + (a.toNat - 48) : Nat) : Int) = (n : Int) := h
      rw [e1] at h
      have e : x = n := by omega
      unfold digL
      rw [if_pos (by omega), ea, e]
    | [a, b], _, hall, hq, h =>
      obtain ⟨x, hx, ea⟩ := isDig_off (hall a (List.mem_cons_self ..))
      obtain ⟨y, hy, eb⟩ := isDig_off (hall b (List.mem_cons_of_mem _ (List.mem_cons_self ..)))
      have hx0 : x ≠ 0 := fun e => hq (.inr ⟨by rw [ea, e]; rfl, Nat.lt_succ_self 1⟩)
      have e1 : a.toNat = 48 + x := by rw [ea]; exact byte_nat _ (by omega)
      have e2 : b.toNat = 48 + y := by rw [eb]; exact byte_nat _ (by omega)
      have h : (((0 * 10 + (a.toNat - 48)) * 10 + (b.toNat - 48) : Nat) : Int) = (n : Int) := h
      rw [e1, e2] at h
      have e : n = x * 10 + y := by omega
      unfold digL
      rw [if_neg (by omega), show n / 10 = x from by omega, show n % 10 = y from by omega, ea, eb]
    | [a, b, c], _, hall, hq, h =>
      obtain ⟨x, hx, ea⟩ := isDig_off (hall a (List.mem_cons_self ..))
      obtain ⟨y, hy, eb⟩ := isDig_off (hall b (List.mem_cons_of_mem _ (List.mem_cons_self ..)))
      obtain ⟨z, hz, ec⟩ := isDig_off (hall c (List.mem_cons_of_mem _ (List.mem_cons_of_mem _ (List.mem_cons_self ..))))
      have hx0 : x ≠ 0 := fun e => hq (.inr ⟨by rw [ea, e]; rfl, by show 1 < 3; omega⟩)
      have e1 : a.toNat = 48 + x := by rw [ea]; exact byte_nat _ (by omega)
      have e2 : b.toNat = 48 + y := by rw [eb]; exact byte_nat _ (by omega)
      have e3 : c.toNat = 48 + z := by rw [ec]; exact byte_nat _ (by omega)
      have h : ((((0 * 10 + (a.toNat - 48)) * 10 + (b.toNat - 48)) * 10 + (c.toNat - 48) : Nat) : Int) = (n : Int) := h
      rw [e1, e2, e3] at h
      omega
    | a :: b :: c :: d :: r, hle, _, _, _ => exact absurd hle (by show ¬ (r.length + 4 ≤ 3); omega)
/-- A half of a byte that is written as a digit; 16: it is none. -/
def halfL (c : UInt8) : Nat := if isDig c = true then c.toNat - 48 else if 97 ≤ c.toNat ∧ c.toNat ≤ 102 then c.toNat - 87 else 16
def hexD (n : Nat) : UInt8 := if n < 10 then byte (48 + n) else byte (87 + n)
theorem half_hex (n : Nat) (h : n < 16) : halfL (hexD n) = n := by
  unfold hexD halfL
  split
  · rename_i q
    rw [if_pos (isDig_byte n q), byte_nat _ (by omega)]
    omega
  · have e : (byte (87 + n)).toNat = 87 + n := byte_nat _ (by omega)
    have : isDig (byte (87 + n)) = false := by
      unfold isDig
      rw [e, decide_eq_true (by omega), decide_eq_false (by omega)]
      rfl
    rw [this, if_neg (by decide), e, if_pos ⟨by omega, by omega⟩]
    omega
theorem hex_half (c : UInt8) (h : halfL c < 16) : c = hexD (halfL c) := by
  unfold halfL at h ⊢
  split at h
  · rename_i q
    rw [if_pos q]
    obtain ⟨x, hx, rfl⟩ := isDig_off q
    rw [byte_nat _ (by omega)]
    unfold hexD
    rw [if_pos (by omega), show 48 + (48 + x - 48) = 48 + x from by omega]
  · rename_i q
    rw [if_neg q]
    split at h
    · rename_i q2
      rw [if_pos q2]
      unfold hexD
      rw [if_neg (by omega), show 87 + (c.toNat - 87) = c.toNat from by omega]
      exact (byte_toNat c).symm
    · omega
/-- Which bytes stand for themselves. -/
def plainB (c : UInt8) : Bool := decide (32 ≤ c.toNat) && (decide (c.toNat ≤ 126) && (c.toNat != 34 && c.toNat != 92))
def escB (c : UInt8) : List UInt8 := if plainB c = true then [c] else [byte 92, hexD (c.toNat / 16), hexD (c.toNat % 16)]
def escL (t : List UInt8) : List UInt8 := t.flatMap escB
/-- What stands in quotes, the first one having been passed, and what follows. -/
def txtL : List UInt8 → Option (List UInt8 × List UInt8)
  | [] => none
  | [c] => if c.toNat = 34 then some ([], []) else none
  | [c, d] => if c.toNat = 34 then some ([], [d]) else if plainB c = true then (txtL [d]).map (fun p => (c :: p.1, p.2)) else none
  | c :: a :: b :: r =>
    if c.toNat = 34 then some ([], a :: b :: r)
    else if plainB c = true then (txtL (a :: b :: r)).map (fun p => (c :: p.1, p.2))
    else if c.toNat = 92 ∧ halfL a < 16 ∧ halfL b < 16 ∧ plainB (byte (halfL a * 16 + halfL b)) = false then (txtL r).map (fun p => (byte (halfL a * 16 + halfL b) :: p.1, p.2))
    else none
theorem plain_ne {c : UInt8} (h : plainB c = true) : ¬ c.toNat = 34 := by
  unfold plainB at h
  simp only [Bool.and_eq_true, bne_iff_ne] at h
  exact h.2.2.1
theorem txt_plain {c : UInt8} (h : plainB c = true) (r : List UInt8) (hr : r ≠ []) : txtL (c :: r) = (txtL r).map (fun p => (c :: p.1, p.2)) := by
  match r, hr with
  | [d], _ =>
    conv => lhs; rw [txtL]
    rw [if_neg (plain_ne h), if_pos h]
  | a :: b :: r, _ =>
    conv => lhs; rw [txtL]
    rw [if_neg (plain_ne h), if_pos h]
theorem txt_quote (r : List UInt8) : txtL (byte 34 :: r) = some ([], r) := by
  have e : (byte 34).toNat = 34 := byte_nat 34 (by omega)
  match r with
  | [] => rw [txtL, if_pos e]
  | [d] => rw [txtL, if_pos e]
  | a :: b :: r => rw [txtL, if_pos e]
theorem txt_escape {c : UInt8} (h : plainB c = false) (r : List UInt8) : txtL (byte 92 :: hexD (c.toNat / 16) :: hexD (c.toNat % 16) :: r) = (txtL r).map (fun p => (c :: p.1, p.2)) := by
  have e : (byte 92).toNat = 92 := byte_nat 92 (by omega)
  have hp : plainB (byte 92) = false := by
    unfold plainB
    rw [e]
    decide
  have h1 := half_hex (c.toNat / 16) (by have := nat_lt c; omega)
  have h2 := half_hex (c.toNat % 16) (by omega)
  have hc : byte (halfL (hexD (c.toNat / 16)) * 16 + halfL (hexD (c.toNat % 16))) = c := by
    rw [h1, h2, show c.toNat / 16 * 16 + c.toNat % 16 = c.toNat from by omega]
    exact byte_toNat c
  rw [txtL, if_neg (by rw [e]; decide), if_neg (by rw [hp]; decide), hc, if_pos ⟨e, by rw [h1]; have := nat_lt c; omega, by rw [h2]; omega, h⟩]
/-- What is written of a text is read as it. -/
theorem txt_esc : ∀ (t r : List UInt8), txtL (escL t ++ byte 34 :: r) = some (t, r)
  | [], r => by
    show txtL (byte 34 :: r) = _
    exact txt_quote r
  | c :: t, r => by
    have ih := txt_esc t r
    have e : escL (c :: t) ++ byte 34 :: r = escB c ++ (escL t ++ byte 34 :: r) := by
      unfold escL
      rw [List.flatMap_cons, List.append_assoc]
    rw [e]
    unfold escB
    cases hp : plainB c with
    | true =>
      rw [if_pos rfl, List.cons_append, List.nil_append, txt_plain hp _ (by simp), ih]
      rfl
    | false =>
      rw [if_neg (by decide), List.cons_append, List.cons_append, List.cons_append, List.nil_append, txt_escape hp, ih]
      rfl
/-- What is read as a text is written so. -/
theorem esc_txt : ∀ (n : Nat) (l t r : List UInt8), l.length ≤ n → txtL l = some (t, r) → l = escL t ++ byte 34 :: r
  | _, [], t, r, _, h => by simp [txtL] at h
  | 0, c :: l, t, r, hn, h => by simp at hn
  | n + 1, c :: l, t, r, hn, h => by
    by_cases hq : c.toNat = 34
    · have hc : c = byte 34 := byte_eq hq
      subst hc
      rw [txt_quote] at h
      cases h
      rfl
    cases hp : plainB c with
    | true =>
      by_cases hl : l = []
      · subst hl
        rw [txtL, if_neg hq] at h
        cases h
      · rw [txt_plain hp l hl] at h
        obtain ⟨⟨t2, r2⟩, h1, h2⟩ := Option.map_eq_some_iff.1 h
        cases h2
        have := esc_txt n l t2 _ (by simp at hn; omega) h1
        unfold escL
        rw [List.flatMap_cons]
        unfold escB
        rw [if_pos hp, List.cons_append, List.nil_append, List.cons_append]
        exact congrArg _ this
    | false =>
      match l, hn, h with
      | [], hn, h =>
        rw [txtL, if_neg hq] at h
        cases h
      | [d], hn, h =>
        rw [txtL, if_neg hq, if_neg (by rw [hp]; decide)] at h
        cases h
      | a :: b :: l, hn, h =>
        rw [txtL, if_neg hq, if_neg (by rw [hp]; decide)] at h
        split at h
        · rename_i q
          obtain ⟨q1, q2, q3, q4⟩ := q
          obtain ⟨⟨t2, r2⟩, h1, h2⟩ := Option.map_eq_some_iff.1 h
          cases h2
          have := esc_txt n l t2 _ (by simp at hn; omega) h1
          have hv : (byte (halfL a * 16 + halfL b)).toNat = halfL a * 16 + halfL b := byte_nat _ (by omega)
          unfold escL
          rw [List.flatMap_cons]
          unfold escB
          rw [if_neg (by rw [q4]; decide), hv, show (halfL a * 16 + halfL b) / 16 = halfL a from by omega, show (halfL a * 16 + halfL b) % 16 = halfL b from by omega, ← hex_half a q2, ← hex_half b q3, byte_eq q1]
          simp only [List.cons_append, List.nil_append]
          exact congrArg (fun x => byte 92 :: a :: b :: x) this
        · cases h
end Go.Proofs.YtmandanmndmnhaaDoor.Tre
