/-
  Plain facts about newlines, lines and columns in a string of bytes. No program is run here.
-/
import Derived.Test.YtmgclgojmckfhaaGreatDoorZGlyA
import Derived.Test.YtmgclgojmckfhaaGreatDoorZMthA
import Derived.Laws.RangeAny
namespace Go.Proofs.YtmgclgojmckfhaaGreatDoor.Plc
open Go.Lib Gly

/-- The byte at a place. -/
def bt (s : ByteArray) (n : Nat) : Nat := (s.get! n).toNat
theorem bt_lt (s : ByteArray) (n : Nat) : bt s n < 256 := (s.get! n).toNat_lt
theorem bt_in (s : ByteArray) (n : Nat) (h : n < s.size) : bt s n = s[n].toNat := by
  unfold bt
  have := get_at s n h
  rw [Nat.add_zero] at this
  rw [this]
theorem bt_getD (s : ByteArray) (n : Nat) : bt s n = (s.data.toList.getD n 0).toNat := by
  unfold bt
  rw [getD_get!']
theorem bt_tail (s : ByteArray) (n k : Nat) : bt (s.extract n s.size) k = bt s (n + k) := by
  rw [bt_getD, bt_getD, extract_to_end, Lib.getD_dropU]

/-- How many bytes the newline has that stands at a byte; 0: there is none. -/
def nlAt (s : ByteArray) (n : Nat) : Nat :=
  if s.size ≤ n then 0
  else if bt s n = 10 ∨ bt s n = 12 then 1
  else if bt s n = 13 then (if n + 1 < s.size ∧ bt s (n + 1) = 10 then 2 else 1)
  else 0
theorem nlAt_le (s : ByteArray) (n : Nat) : nlAt s n ≤ 2 := by
  unfold nlAt
  repeat' split
  all_goals omega
theorem nlAt_tail (s : ByteArray) (n : Nat) : nlAt (s.extract n s.size) 0 = nlAt s n := by
  unfold nlAt
  rw [size_tail, bt_tail s n 0, Nat.add_zero, Nat.zero_add, bt_tail s n 1]
  by_cases h0 : s.size ≤ n
  · rw [if_pos (by omega), if_pos h0]
  · rw [if_neg (by omega), if_neg h0]
    by_cases h1 : n + 1 < s.size
    · have e2 : (1 < s.size - n ∧ bt s (n + 1) = 10) ↔ (n + 1 < s.size ∧ bt s (n + 1) = 10) := ⟨fun q => ⟨h1, q.2⟩, fun q => ⟨by omega, q.2⟩⟩
      simp only [e2]
    · have e2 : (1 < s.size - n ∧ bt s (n + 1) = 10) ↔ (n + 1 < s.size ∧ bt s (n + 1) = 10) := ⟨fun q => absurd q.1 (by omega), fun q => absurd q.1 h1⟩
      simp only [e2]

theorem rune_ascii (s : ByteArray) (n : Nat) (h : bt s n < 128) : (Utf8.decode s n).1 = bt s n := by
  rw [decode_N]
  rw [bt_getD s n] at h ⊢
  rw [decodeN_ascii _ _ _ _ _ h]

/-- The column behind a tab. -/
def tabI (c : Int) : Int := (c - 1) / 8 * 8 + 9
/-- The place behind what stands at a byte: of a newline of two bytes nothing is over before its second byte. -/
def adv (s : ByteArray) (n : Nat) (st : Int × Int) : Int × Int :=
  if nlAt s n = 2 then st
  else if nlAt s n = 1 then (st.1 + 1, 1)
  else if bt s n = 9 then (st.1, tabI st.2)
  else (st.1, st.2 + 1)
/-- The place at a byte: go on over what ends at or before it. -/
def scan (s : ByteArray) (at_ : Nat) : Nat → Nat → Int × Int → Int × Int
  | 0, _, st => st
  | f + 1, p, st => if p < s.size ∧ p + (Utf8.decode s p).2 ≤ at_ then scan s at_ f (p + (Utf8.decode s p).2) (adv s p st) else st
theorem scan_stop (s : ByteArray) (at_ f p : Nat) (st : Int × Int) (h : ¬ (p < s.size ∧ p + (Utf8.decode s p).2 ≤ at_)) : scan s at_ f p st = st := by
  cases f with
  | zero => rfl
  | succ f => rw [scan, if_neg h]
theorem scan_go (s : ByteArray) (at_ f p : Nat) (st : Int × Int) (h : p < s.size ∧ p + (Utf8.decode s p).2 ≤ at_) (hf : s.size ≤ p + f) :
    scan s at_ f p st = scan s at_ (f - 1) (p + (Utf8.decode s p).2) (adv s p st) := by
  cases f with
  | zero => omega
  | succ f => rw [scan, if_pos h]; rfl
/-- A fuel that is enough is enough. -/
theorem scan_fuel (s : ByteArray) (at_ : Nat) : ∀ (f g p : Nat) (st : Int × Int), s.size ≤ p + f → s.size ≤ p + g → scan s at_ f p st = scan s at_ g p st := by
  intro f
  induction f with
  | zero =>
    intro g p st hf hg
    rw [scan_stop _ _ _ _ _ (by omega), scan_stop _ _ _ _ _ (by omega)]
  | succ f ih =>
    intro g p st hf hg
    by_cases h : p < s.size ∧ p + (Utf8.decode s p).2 ≤ at_
    · have hw := width_ge s p
      cases g with
      | zero => omega
      | succ g =>
        rw [scan, if_pos h, scan, if_pos h]
        exact ih g _ _ (by omega) (by omega)
    · rw [scan_stop _ _ _ _ _ h, scan_stop _ _ _ _ _ h]
/-- The place at a byte, from a column of the first line on. -/
def spot (s : ByteArray) (col : Int) (at_ : Nat) : Int × Int := scan s at_ s.size 0 (1, col)

theorem adv_bd (s : ByteArray) (n : Nat) (st : Int × Int) (a b : Int) (h1 : 1 ≤ st.1 ∧ st.1 ≤ a) (h2 : 1 ≤ st.2 ∧ st.2 ≤ b) : (1 ≤ (adv s n st).1 ∧ (adv s n st).1 ≤ a + 1) ∧ (1 ≤ (adv s n st).2 ∧ (adv s n st).2 ≤ b + 8) := by
  unfold adv tabI
  repeat' split
  all_goals (try dsimp only)
  all_goals omega

end Go.Proofs.YtmgclgojmckfhaaGreatDoor.Plc
/-
  Plain facts about the lines of a string of bytes. No program is run here.
-/
namespace Go.Proofs.YtmgclgojmckfhaaGreatDoor.Plc
open Go.Lib Gly

/-- The lines from a beginning on, looked for from a byte on; f: as many rounds as there are bytes. -/
def cut (s : ByteArray) : Nat → Nat → Nat → List ByteArray
  | 0, b, _ => [s.extract b s.size]
  | f + 1, b, i => if i < s.size then (if nlAt s i = 0 then cut s f b (i + 1) else s.extract b i :: cut s f (i + nlAt s i) (i + nlAt s i)) else [s.extract b s.size]
def linesL (s : ByteArray) : List ByteArray := cut s s.size 0 0
/-- Within a rune no newline begins. -/
theorem rune_inner (s : ByteArray) (p j : Nat) (h1 : 0 < j) (h2 : j < (Utf8.decode s p).2) : 128 ≤ bt s (p + j) := by
  rw [decode_N] at h2
  rw [bt_getD]
  rcases decodeN_shape (s.data.toList.length - p) (s.data.toList.getD p 0).toNat (s.data.toList.getD (p + 1) 0).toNat (s.data.toList.getD (p + 2) 0).toNat (s.data.toList.getD (p + 3) 0).toNat with ⟨c, e⟩ | ⟨c1, c2, c3, cv, e⟩ | ⟨c1, c2, c3, c4, cv, cs, e⟩ | ⟨c1, c2, c3, c4, c5, cv, cw, e⟩ | e
  all_goals rw [e] at h2
  all_goals dsimp only at h2
  · omega
  · obtain rfl : j = 1 := by omega
    omega
  · rcases (show j = 1 ∨ j = 2 by omega) with rfl | rfl <;> omega
  · rcases (show j = 1 ∨ j = 2 ∨ j = 3 by omega) with rfl | rfl | rfl <;> omega
  · omega
end Go.Proofs.YtmgclgojmckfhaaGreatDoor.Plc
/-
  Plain facts about comments in a row of bytes: where a nested one ends, its lines, and what it is when its lines are laid anew. No program is run here.
-/
namespace Go.Proofs.YtmgclgojmckfhaaGreatDoor.Not
open Go.Lib Gly
open Wrd (rn wd run)
set_option linter.unusedSimpArgs false
set_option linter.unusedVariables false

/-! ### Nested comments -/

/-- One byte on: how deep, and whether the byte may begin a pair (1: an opening one, 2: a closing one, 0: neither). -/
def stp (d q : Nat) (b : UInt8) : Nat × Nat :=
  if q = 1 ∧ b = 45 then (d + 1, 0)
  else if q = 2 ∧ b = 125 then (d - 1, 0)
  else if b = 123 then (d, 1) else if b = 45 then (d, 2) else (d, 0)
/-- How many bytes there are up to the end of the comment that is d deep; 0: it does not end. -/
def endA : Nat → Nat → List UInt8 → Nat
  | _, _, [] => 0
  | d, q, b :: r => if (stp d q b).1 = 0 then 1 else if endA (stp d q b).1 (stp d q b).2 r = 0 then 0 else endA (stp d q b).1 (stp d q b).2 r + 1
theorem endA_le : ∀ (L : List UInt8) (d q : Nat), endA d q L ≤ L.length
  | [], _, _ => Nat.le_refl _
  | b :: r, d, q => by
    have := endA_le r (stp d q b).1 (stp d q b).2
    rw [endA, List.length_cons]
    repeat' split
    all_goals omega
/-- Is it a pair with the byte behind it? -/
def pair (b c : UInt8) : Bool := (b == 123 && c == 45) || (b == 45 && c == 125)
theorem endA_open (d : Nat) (hd : 0 < d) (r : List UInt8) : endA d 0 (123 :: 45 :: r) = if endA (d + 1) 0 r = 0 then 0 else endA (d + 1) 0 r + 2 := by
  have e1 : stp d 0 123 = (d, 1) := rfl
  have e2 : stp d 1 45 = (d + 1, 0) := rfl
  rw [endA, e1]
  dsimp only
  rw [if_neg (show ¬ d = 0 by omega), endA, e2]
  dsimp only
  rw [if_neg (show ¬ d + 1 = 0 by omega)]
  (repeat' split) <;> omega
theorem endA_close (d : Nat) (hd : 0 < d) (r : List UInt8) : endA d 0 (45 :: 125 :: r) = if d = 1 then 2 else if endA (d - 1) 0 r = 0 then 0 else endA (d - 1) 0 r + 2 := by
  have e1 : stp d 0 45 = (d, 2) := rfl
  have e2 : stp d 2 125 = (d - 1, 0) := rfl
  rw [endA, e1]
  dsimp only
  rw [if_neg (show ¬ d = 0 by omega), endA, e2]
  dsimp only
  by_cases h1 : d = 1
  · rw [if_pos (show d - 1 = 0 by omega), if_pos h1, if_neg (by decide)]
  · rw [if_neg (show ¬ d - 1 = 0 by omega), if_neg h1]
    (repeat' split) <;> omega
theorem stp_first (d q : Nat) (b : UInt8) : (stp d 0 b).1 = d := by
  unfold stp
  rw [if_neg (fun x => absurd x.1 (by decide)), if_neg (fun x => absurd x.1 (by decide))]
  (repeat' split) <;> rfl
theorem stp_next (d : Nat) (b c : UInt8) (h : pair b c = false) : stp d (stp d 0 b).2 c = stp d 0 c := by
  have hq : (stp d 0 b).2 = if b = 123 then 1 else if b = 45 then 2 else 0 := by
    unfold stp
    rw [if_neg (fun x => absurd x.1 (by decide)), if_neg (fun x => absurd x.1 (by decide))]
    (repeat' split) <;> rfl
  rw [hq]
  have h1 : ¬ (b = 123 ∧ c = 45) := by
    rintro ⟨rfl, rfl⟩
    revert h
    decide
  have h2 : ¬ (b = 45 ∧ c = 125) := by
    rintro ⟨rfl, rfl⟩
    revert h
    decide
  unfold stp
  by_cases e : b = 123
  · have hc : ¬ c = 45 := fun x => h1 ⟨e, x⟩
    subst e
    simp [hc]
  · by_cases e2 : b = 45
    · have hc : ¬ c = 125 := fun x => h2 ⟨e2, x⟩
      subst e2
      simp [hc]
    · simp [e, e2]
theorem endA_other (d : Nat) (hd : 0 < d) (b c : UInt8) (r : List UInt8) (h : pair b c = false) : endA d 0 (b :: c :: r) = if endA d 0 (c :: r) = 0 then 0 else endA d 0 (c :: r) + 1 := by
  have e : endA d (stp d 0 b).2 (c :: r) = endA d 0 (c :: r) := by simp only [endA, stp_next d b c h]
  rw [endA, stp_first d 0 b, if_neg (by omega), e]
theorem endA_one (d : Nat) (hd : 0 < d) (b : UInt8) : endA d 0 [b] = 0 := by
  rw [endA, stp_first d 0 b, if_neg (by omega)]
  rfl

/-! ### Blanks -/

/-- Is a byte a blank? -/
def blk (b : UInt8) : Bool := decide (b.toNat = 32 ∨ (9 ≤ b.toNat ∧ b.toNat ≤ 13))
/-- Does a newline begin with it? -/
def nl (b : UInt8) : Bool := b == 10 || b == 12 || b == 13
/-- A tab of either kind is a space. -/
def fl (b : UInt8) : UInt8 := if b = 9 ∨ b = 11 then 32 else b
theorem byte_all (P : UInt8 → Bool) (h : ∀ k : Fin 256, P (UInt8.ofNat k.val) = true) (b : UInt8) : P b = true := by
  have := h ⟨b.toNat, b.toNat_lt⟩
  simpa using this
theorem nl_blk (b : UInt8) (h : nl b = true) : blk b = true := by
  have := byte_all (fun b => !nl b || blk b) (by decide +kernel) b
  rw [h] at this
  simpa using this
theorem fl_same (b : UInt8) (h : blk b = false) : fl b = b := by
  have := byte_all (fun b => blk b || fl b == b) (by decide +kernel) b
  rw [h] at this
  simpa using this
/-- Are all blanks? -/
def allBlk (l : List UInt8) : Prop := ∀ b ∈ l, blk b = true
/-- Is no newline among them? -/
def noNl (l : List UInt8) : Prop := ∀ b ∈ l, nl b = false
theorem allBlk.nil : allBlk [] := fun _ h => nomatch h
theorem allBlk.cons {b : UInt8} {l : List UInt8} (hb : blk b = true) (h : allBlk l) : allBlk (b :: l) := by
  intro c hc
  rcases List.mem_cons.1 hc with rfl | hc
  · exact hb
  · exact h c hc
theorem allBlk.append {a b : List UInt8} (ha : allBlk a) (hb : allBlk b) : allBlk (a ++ b) := by
  intro c hc
  rcases List.mem_append.1 hc with hc | hc
  · exact ha c hc
  · exact hb c hc
theorem noNl.tail {b : UInt8} {l : List UInt8} (h : noNl (b :: l)) : noNl l := fun c hc => h c (List.mem_cons_of_mem _ hc)
theorem noNl.cons {b : UInt8} {l : List UInt8} (hb : nl b = false) (h : noNl l) : noNl (b :: l) := by
  intro c hc
  rcases List.mem_cons.1 hc with rfl | hc
  · exact hb
  · exact h c hc

/-! ### Lines -/

/-! ### A line without blanks at its ends -/

/-- A bare line: neither end is a blank, all blanks are spaces. -/
def Bare (l : List UInt8) : Prop := (∀ b ∈ l, blk b = true → b = 32) ∧ (∀ b, l.head? = some b → blk b = false) ∧ (∀ b, l.getLast? = some b → blk b = false)
theorem Bare.noNl {l : List UInt8} (h : Bare l) : noNl l := by
  intro b hb
  cases hn : nl b with
  | false => rfl
  | true =>
    have := h.1 b hb (nl_blk b hn)
    subst this
    revert hn
    decide
theorem Bare.map {l : List UInt8} (h : Bare l) : l.map fl = l := by
  have : ∀ (m : List UInt8), (∀ b ∈ m, blk b = true → b = 32) → m.map fl = m := by
    intro m
    induction m with
    | nil => intro _; rfl
    | cons b m ih =>
      intro hm
      rw [List.map_cons, ih (fun c hc => hm c (List.mem_cons_of_mem _ hc))]
      cases hk : blk b with
      | false => rw [fl_same b hk]
      | true => rw [hm b (List.mem_cons_self ..) hk]; rfl
  exact this l h.1
/-! ### Lines laid anew -/

end Go.Proofs.YtmgclgojmckfhaaGreatDoor.Not
/-
  Plain facts about comments in a row of bytes, continued: what a comment is, that it is one by itself, that laid anew it is of the same kind, and clean. No program is run here.
-/
namespace Go.Proofs.YtmgclgojmckfhaaGreatDoor.Not
open Go.Lib Gly
open Wrd (rn wd run run_le run_same run_step run_stop wd_pos wd_le dec_same)
set_option linter.unusedSimpArgs false
set_option linter.unusedVariables false

/-! ### Texts that are the same but for their blanks -/

inductive Bl : List UInt8 → List UInt8 → Prop
  | nil : Bl [] []
  | byte (b : UInt8) (x y : List UInt8) : blk b = false → Bl x y → Bl (b :: x) (b :: y)
  | gap (u v x y : List UInt8) : u ≠ [] → v ≠ [] → allBlk u → allBlk v → Bl x y → Bl (u ++ x) (v ++ y)
theorem Bl.symm {x y : List UInt8} (h : Bl x y) : Bl y x := by
  induction h with
  | nil => exact .nil
  | byte b x y hb _ ih => exact .byte b y x hb ih
  | gap u v x y hu hv ku kv _ ih => exact .gap v u y x hv hu kv ku ih
theorem Bl.append {x y x' y' : List UInt8} (h : Bl x y) (h' : Bl x' y') : Bl (x ++ x') (y ++ y') := by
  induction h with
  | nil => exact h'
  | byte b x y hb _ ih => exact .byte b _ _ hb ih
  | gap u v x y hu hv ku kv _ ih =>
    rw [List.append_assoc, List.append_assoc]
    exact .gap u v _ _ hu hv ku kv ih
theorem allBlk.reverse {l : List UInt8} (h : allBlk l) : allBlk l.reverse := fun b hb => h b (List.mem_reverse.1 hb)
theorem Bl.reverse {x y : List UInt8} (h : Bl x y) : Bl x.reverse y.reverse := by
  induction h with
  | nil => exact .nil
  | byte b x y hb _ ih =>
    rw [List.reverse_cons, List.reverse_cons]
    exact ih.append (.byte b [] [] hb .nil)
  | gap u v x y hu hv ku kv _ ih =>
    rw [List.reverse_append, List.reverse_append]
    have := Bl.gap u.reverse v.reverse [] [] (by simpa using hu) (by simpa using hv) ku.reverse kv.reverse .nil
    rw [List.append_nil, List.append_nil] at this
    exact ih.append this
theorem Bl.cons {b : UInt8} {x z : List UInt8} (hb : blk b = false) (h : Bl (b :: x) z) : ∃ y, z = b :: y ∧ Bl x y := by
  generalize hw : b :: x = w at h
  cases h with
  | nil => cases hw
  | byte c x' y hc h =>
    cases hw
    exact ⟨y, rfl, h⟩
  | gap u v x' y hu hv ku kv h =>
    cases u with
    | nil => exact absurd rfl hu
    | cons c u =>
      rw [List.cons_append] at hw
      obtain ⟨rfl, _⟩ := List.cons.inj hw
      rw [ku b (List.mem_cons_self ..)] at hb
      cases hb
theorem Bl.head {x y : List UInt8} (h : Bl x y) (b : UInt8) (hb : blk b = false) (hx : x.head? = some b) : y.head? = some b := by
  cases x with
  | nil => cases hx
  | cons c x =>
    obtain rfl : c = b := by simpa using hx
    obtain ⟨y', rfl, _⟩ := h.cons hb
    rfl
/-- Is it what is left of a comment that is d deep, up to its end? -/
def acc : Nat → Nat → List UInt8 → Bool
  | d, _, [] => d == 0
  | d, q, b :: r => d != 0 && acc (stp d q b).1 (stp d q b).2 r
theorem stp_blank (d q : Nat) (b : UInt8) (hb : blk b = true) : stp d q b = (d, 0) := by
  have h := byte_all (fun b => !blk b || (b != 45 && b != 125 && b != 123)) (by decide +kernel) b
  rw [hb] at h
  simp at h
  unfold stp
  rw [if_neg (fun x => h.1.1 x.2), if_neg (fun x => h.1.2 x.2), if_neg h.2, if_neg h.1.1]
theorem acc_gap : ∀ (u x : List UInt8) (d q : Nat), u ≠ [] → allBlk u → acc d q (u ++ x) = (d != 0 && acc d 0 x)
  | [], _, _, _, h, _ => absurd rfl h
  | [b], x, d, q, _, hu => by
    rw [List.singleton_append, acc, stp_blank d q b (hu b (List.mem_cons_self ..))]
  | b :: c :: u, x, d, q, _, hu => by
    rw [List.cons_append, acc, stp_blank d q b (hu b (List.mem_cons_self ..))]
    dsimp only
    rw [acc_gap (c :: u) x d 0 (by simp) (fun e he => hu e (List.mem_cons_of_mem _ he))]
    cases (d != 0) <;> rfl
theorem Bl.acc {x y : List UInt8} (h : Bl x y) : ∀ (d q : Nat), acc d q x = acc d q y := by
  induction h with
  | nil => intro d q; rfl
  | byte b x y hb _ ih =>
    intro d q
    rw [Not.acc, Not.acc, ih]
  | gap u v x y hu hv ku kv _ ih =>
    intro d q
    rw [acc_gap u x d q hu ku, acc_gap v y d q hv kv, ih]
/-! ### What a comment is -/

def symP (c : Int) : Bool := classI c == 5
theorem sym_bad : symP 65533 = false := by decide +kernel
/-- Does it begin as a nested comment does? -/
def opn : List UInt8 → Bool
  | b :: c :: _ => b == 123 && c == 45
  | _ => false
/-- Are these two dashes or more, and nothing else? -/
def dsh (l : List UInt8) : Bool := decide (2 ≤ l.length) && l.all (· == 45)
/-- How many bytes there are up to the next newline. -/
def nlEnd : List UInt8 → Nat
  | [] => 0
  | b :: r => if nl b = true then 0 else nlEnd r + 1
theorem nlEnd_le : ∀ (L : List UInt8), nlEnd L ≤ L.length
  | [] => Nat.le_refl _
  | b :: r => by
    have := nlEnd_le r
    rw [nlEnd, List.length_cons]
    split <;> omega
/-- How many bytes the comment has that a row of bytes begins with (0: there is none), and what is wrong. -/
def scanN (L : List UInt8) : Nat × Nat :=
  if opn L = true then (if endA 1 0 (L.drop 2) = 0 then (0, 60) else (endA 1 0 (L.drop 2) + 2, 0))
  else if dsh (L.take (run symP L)) = true then (run symP L + nlEnd (L.drop (run symP L)), 0) else (0, 0)
theorem opn_split (L : List UInt8) (h : opn L = true) : ∃ r, L = 123 :: 45 :: r := by
  match L, h with
  | b :: c :: r, h =>
    simp [opn] at h
    exact ⟨r, by rw [h.1, h.2]⟩
theorem scanN_le (L : List UInt8) : (scanN L).1 ≤ L.length := by
  unfold scanN
  split
  · rename_i h
    obtain ⟨r, rfl⟩ := opn_split L h
    have := endA_le r 1 0
    show (if endA 1 0 r = 0 then _ else _ : Nat × Nat).1 ≤ _
    simp only [List.length_cons]
    split
    · exact Nat.zero_le _
    · dsimp only
      change endA 1 0 r + 2 ≤ _
      omega
  · split
    · have h1 := run_le symP L.length L (Nat.le_refl _)
      have h2 := nlEnd_le (L.drop (run symP L))
      rw [List.length_drop] at h2
      dsimp only
      omega
    · exact Nat.zero_le _
theorem dsh_len {L : List UInt8} (h : dsh L = true) : 2 ≤ L.length := by
  unfold dsh at h
  rw [Bool.and_eq_true] at h
  exact of_decide_eq_true h.1
/-- Behind a row of symbols no symbol stands. -/
theorem run_end (P : Int → Bool) : ∀ (n : Nat) (L : List UInt8), L.length ≤ n → L.drop (run P L) = [] ∨ P (rn (L.drop (run P L))) = false := by
  intro n
  induction n with
  | zero =>
    intro L h
    obtain rfl : L = [] := List.eq_nil_of_length_eq_zero (by omega)
    exact .inl (by simp)
  | succ n ih =>
    intro L h
    by_cases hz : L = [] ∨ P (rn L) = false
    · rw [run_stop P L hz, List.drop_zero]
      exact hz
    · have hne : L ≠ [] := fun e => hz (Or.inl e)
      have hp : P (rn L) = true := by cases hq : P (rn L) with | true => rfl | false => exact absurd (Or.inr hq) hz
      have hw := wd_pos L
      have hx := wd_le L hne
      rw [run_step P L hne hp, ← List.drop_drop]
      exact ih (L.drop (wd L)) (by rw [List.length_drop]; omega)
theorem sym_take (L : List UInt8) (j : Nat) (h : L = [] ∨ symP (rn L) = false) : L.take j = [] ∨ symP (rn (L.take j)) = false := by
  by_cases h0 : L.take j = []
  · exact .inl h0
  refine .inr ?_
  cases hs : symP (rn (L.take j)) with
  | false => rfl
  | true =>
    exfalso
    have hbad : rn (L.take j) ≠ 65533 := by
      intro e
      rw [e, sym_bad] at hs
      cases hs
    have hx := wd_le _ h0
    have hj : wd (L.take j) ≤ j := Nat.le_trans hx (by rw [List.length_take]; omega)
    have hd := dec_same (L.take j) L hbad (Nat.le_trans hx (by rw [List.length_take]; omega)) (by rw [List.take_take, Nat.min_eq_left hj])
    rcases h with h | h
    · rw [h] at h0
      simp at h0
    · have : rn L = rn (L.take j) := by unfold Wrd.rn; rw [hd]
      rw [this, hs] at h
      cases h
theorem run_take (L : List UInt8) (k : Nat) (hk : run symP L ≤ k) : run symP (L.take k) = run symP L := by
  have hr := run_le symP _ L (Nat.le_refl _)
  refine run_same symP sym_bad _ L (L.take k) (Nat.le_refl _) (by rw [List.take_take, Nat.min_eq_left hk]) (by rw [List.length_take]; omega) ?_
  rw [List.drop_take]
  exact sym_take _ _ (run_end symP _ L (Nat.le_refl _))

/-! ### Laid anew it is of the same kind -/

/-! ### Laid anew it is clean -/

/-- A tab, a newline that is not 10, or a space at a line's end. -/
def bad (b : UInt8) (r : List UInt8) : Bool := b == 9 || (decide (11 ≤ b.toNat) && decide (b.toNat ≤ 13)) || (b == 32 && (r.isEmpty || r.head? == some 10))
/-! ### How long they are -/

end Go.Proofs.YtmgclgojmckfhaaGreatDoor.Not
/-
  Which lexeme a row of bytes begins with, and which comment; that both hang on their own bytes alone where nothing, a blank or a newline follows them. No program is run here.
-/
namespace Go.Proofs.YtmgclgojmckfhaaGreatDoor.Lx
open Go.Lib Gly
open Wrd (rn wd)
set_option linter.unusedSimpArgs false
set_option linter.unusedVariables false

/-! ### A blank byte behind a row -/

/-- A newline, or a blank. -/
def Sep (c : UInt8) : Prop := c = 10 ∨ c = 32
theorem Sep.lt {c : UInt8} (h : Sep c) : c.toNat < 64 := by rcases h with rfl | rfl <;> decide

theorem decodeN_sep (n m b0 b1 b2 b3 c1 c2 c3 : Nat) (hn : 1 ≤ n) (hm : n < m) (e1 : 1 < n → c1 = b1) (e2 : 2 < n → c2 = b2) (e3 : 3 < n → c3 = b3)
    (f1 : 1 = n → c1 / 64 ≠ 2) (f2 : 2 = n → c2 / 64 ≠ 2) (f3 : 3 = n → c3 / 64 ≠ 2) : Lib.decodeN m b0 c1 c2 c3 = Lib.decodeN n b0 b1 b2 b3 := by
  rcases (show n = 1 ∨ n = 2 ∨ n = 3 ∨ 4 ≤ n by omega) with rfl | rfl | rfl | h4
  · have g := f1 rfl
    clear f1 f2 f3 e1 e2 e3
    unfold Lib.decodeN
    simp [g]
  · have g := f2 rfl
    obtain rfl := e1 (by omega)
    clear f1 f2 f3 e1 e2 e3
    have h1 : 1 < m := by omega
    unfold Lib.decodeN
    simp [g, h1]
  · have g := f3 rfl
    obtain rfl := e1 (by omega)
    obtain rfl := e2 (by omega)
    clear f1 f2 f3 e1 e2 e3
    have h1 : 1 < m := by omega
    have h2 : 2 < m := by omega
    unfold Lib.decodeN
    simp [g, h1, h2]
  · obtain rfl := e1 (by omega)
    obtain rfl := e2 (by omega)
    obtain rfl := e3 (by omega)
    clear f1 f2 f3 e1 e2 e3
    have h1 : 1 < m := by omega
    have h2 : 2 < m := by omega
    have h3 : 3 < m := by omega
    have k1 : 1 < n := by omega
    have k2 : 2 < n := by omega
    have k3 : 3 < n := by omega
    unfold Lib.decodeN
    simp [h1, h2, h3, k1, k2, k3]
theorem getD_in (L : List UInt8) (c : UInt8) (B : List UInt8) (i : Nat) (h : i < L.length) : (L ++ c :: B).getD i 0 = L.getD i 0 := by
  rw [List.getD_eq_getElem?_getD, List.getD_eq_getElem?_getD, List.getElem?_append_left h]
theorem getD_at (L : List UInt8) (c : UInt8) (B : List UInt8) : (L ++ c :: B).getD L.length 0 = c := by
  rw [List.getD_eq_getElem?_getD, List.getElem?_append_right (Nat.le_refl _)]
  simp
theorem dec_sep (L : List UInt8) (c : UInt8) (B : List UInt8) (hne : L ≠ []) (hc : c.toNat < 64) : decodeL (L ++ c :: B) = decodeL L := by
  have hl : 0 < L.length := List.length_pos_iff.2 hne
  have k : ∀ i, i = L.length → ((L ++ c :: B).getD i 0).toNat / 64 ≠ 2 := fun i hi => by
    rw [hi, getD_at]
    omega
  rw [decodeL_N, decodeL_N L, getD_in L c B 0 hl]
  exact decodeN_sep _ _ _ _ _ _ _ _ _ (by omega) (by rw [List.length_append, List.length_cons]; omega) (fun q => by rw [getD_in _ _ _ 1 q]) (fun q => by rw [getD_in _ _ _ 2 q]) (fun q => by rw [getD_in _ _ _ 3 q]) (k 1) (k 2) (k 3)
theorem rn_sep (L : List UInt8) (c : UInt8) (B : List UInt8) (hne : L ≠ []) (hc : c.toNat < 64) : rn (L ++ c :: B) = rn L := by
  unfold Wrd.rn
  rw [dec_sep L c B hne hc]
theorem wd_sep (L : List UInt8) (c : UInt8) (B : List UInt8) (hne : L ≠ []) (hc : c.toNat < 64) : wd (L ++ c :: B) = wd L := by
  unfold Wrd.wd
  rw [dec_sep L c B hne hc]
theorem drop_sep (L : List UInt8) (c : UInt8) (B : List UInt8) (i : Nat) (h : i ≤ L.length) : (L ++ c :: B).drop i = L.drop i ++ c :: B := List.drop_append_of_le_length h
theorem take_sep (L : List UInt8) (c : UInt8) (B : List UInt8) (i : Nat) (h : i ≤ L.length) : (L ++ c :: B).take i = L.take i := List.take_append_of_le_length h
theorem run_sep (P : Int → Bool) (c : UInt8) (B : List UInt8) (hc : c.toNat < 64) (hP : P ((c.toNat : Nat) : Int) = false) : ∀ (n : Nat) (L : List UInt8), L.length ≤ n → Wrd.run P (L ++ c :: B) = Wrd.run P L := by
  have h0 : Wrd.run P (c :: B) = Wrd.run P [] := by
    rw [Wrd.run_stop P (c :: B) (.inr (by rw [(Wrd.rn_ascii c B (by omega)).1]; exact hP)), Wrd.run_stop P [] (.inl rfl)]
  intro n
  induction n with
  | zero =>
    intro L hl
    obtain rfl : L = [] := List.eq_nil_of_length_eq_zero (by omega)
    exact h0
  | succ n ih =>
    intro L hl
    by_cases hne : L = []
    · subst hne
      exact h0
    · have hr := rn_sep L c B hne hc
      have hw := wd_sep L c B hne hc
      have h1 := Wrd.wd_pos L
      have h2 := Wrd.wd_le L hne
      cases hp : P (rn L) with
      | false => rw [Wrd.run_stop P _ (.inr (by rw [hr]; exact hp)), Wrd.run_stop P L (.inr hp)]
      | true => rw [Wrd.run_step P _ (by simp) (by rw [hr]; exact hp), Wrd.run_step P L hne hp, hw, drop_sep L c B _ h2, ih _ (by rw [List.length_drop]; omega)]

/-! ### Numbers -/

theorem sep_digit {c : UInt8} (h : Sep c) {b : Nat} (hb : b = 8 ∨ b = 10 ∨ b = 16) : Num.isD b c = false := by
  rcases h with rfl | rfl <;> rcases hb with rfl | rfl | rfl <;> decide +kernel
theorem nrun_sep (b : Nat) (c : UInt8) (B : List UInt8) (h : Num.isD b c = false) : ∀ L : List UInt8, Num.run b (L ++ c :: B) = Num.run b L
  | [] => by
    show Num.run b (c :: B) = 0
    rw [Num.run, h]
    rfl
  | x :: L => by
    rw [List.cons_append, Num.run, Num.run, nrun_sep b c B h L]
theorem bt_in (L : List UInt8) (c : UInt8) (B : List UInt8) (i : Nat) (h : i < L.length) : Num.bt (L ++ c :: B) i = Num.bt L i := by
  unfold Num.bt
  rw [getD_in L c B i h]
theorem bt_at (L : List UInt8) (c : UInt8) (B : List UInt8) (i : Nat) (h : i = L.length) : Num.bt (L ++ c :: B) i = c.toNat := by
  unfold Num.bt
  rw [h, getD_at]
theorem endOr_sep {c : UInt8} (hs : Sep c) (L B : List UInt8) (a o : Nat) (h : a ≤ L.length) : Num.endOr (L ++ c :: B) a o = Num.endOr L a o := by
  unfold Num.endOr
  rw [drop_sep L c B a h, nrun_sep 10 c B (sep_digit hs (by omega))]
theorem fracE_sep {c : UInt8} (hs : Sep c) (L B : List UInt8) (a : Nat) (h : a ≤ L.length) : Num.fracE (L ++ c :: B) a = Num.fracE L a := by
  unfold Num.fracE
  rcases Nat.lt_or_ge a L.length with q | q
  · rw [bt_in L c B a q]
    split
    · exact endOr_sep hs L B _ _ (by omega)
    · rfl
  · rw [bt_at L c B a (by omega), Num.bt_out L a q, if_neg, if_neg (by decide)]
    rcases hs with rfl | rfl <;> decide
theorem expF_sep {c : UInt8} (hs : Sep c) (L B : List UInt8) (a : Nat) (h : a < L.length) : Num.expF (L ++ c :: B) a = Num.expF L a := by
  unfold Num.expF
  rcases Nat.lt_or_ge (a + 1) L.length with q | q
  · rw [bt_in L c B _ q]
  · rw [bt_at L c B _ (by omega), Num.bt_out L _ q, if_neg, if_neg (by decide)]
    rcases hs with rfl | rfl <;> decide
theorem expF_le (L : List UInt8) (a : Nat) (h : a < L.length) : Num.expF L a ≤ L.length := by
  unfold Num.expF
  split
  · rename_i q
    have := Num.bt_lt L (a + 1) (by omega)
    omega
  · omega
theorem expE_sep {c : UInt8} (hs : Sep c) (L B : List UInt8) (a : Nat) (h : a ≤ L.length) : Num.expE (L ++ c :: B) a = Num.expE L a := by
  unfold Num.expE
  rcases Nat.lt_or_ge a L.length with q | q
  · rw [bt_in L c B a q, expF_sep hs L B a q]
    split
    · exact endOr_sep hs L B _ _ (expF_le L a q)
    · rfl
  · rw [bt_at L c B a (by omega), Num.bt_out L a q, if_neg, if_neg (by decide)]
    rcases hs with rfl | rfl <;> decide
theorem lett_sep {c : UInt8} (hs : Sep c) (L B : List UInt8) (hne : L ≠ []) : Num.lett (L ++ c :: B) = Num.lett L := by
  have hl : 0 < L.length := List.length_pos_iff.2 hne
  unfold Num.lett
  rw [bt_in L c B 0 hl]
  rcases Nat.lt_or_ge 1 L.length with q | q
  · rw [bt_in L c B 1 q]
  · rw [bt_at L c B 1 (by omega), Num.bt_out L 1 q]
    have : Num.letter c.toNat = Num.letter 0 := by rcases hs with rfl | rfl <;> decide
    rw [this]
theorem letter_run {c : UInt8} (hs : Sep c) (L B : List UInt8) (hne : L ≠ []) : Num.run (Num.lett L) ((L ++ c :: B).drop 2) = Num.run (Num.lett L) (L.drop 2) := by
  have hl : 0 < L.length := List.length_pos_iff.2 hne
  rcases Nat.lt_or_ge 1 L.length with q | q
  · rw [drop_sep L c B 2 (by omega)]
    rcases Num.lett_is L with e | e | e
    · rw [e, Num.run_small 0 (by omega), Num.run_small 0 (by omega)]
    · rw [e, nrun_sep 8 c B (sep_digit hs (by omega))]
    · rw [e, nrun_sep 16 c B (sep_digit hs (by omega))]
  · have e : Num.lett L = 0 := by
      unfold Num.lett
      rw [Num.bt_out L 1 q]
      split <;> rfl
    rw [e, Num.run_small 0 (by omega), Num.run_small 0 (by omega)]
theorem num_empty {c : UInt8} (hs : Sep c) (B : List UInt8) : Num.readL (c :: B) = Num.Nl.none := by
  have e1 : Num.lett (c :: B) = 0 := by
    unfold Num.lett
    rw [if_neg]
    show ¬ c.toNat = 48
    rcases hs with rfl | rfl <;> decide
  have e2 : Num.run 10 (c :: B) = 0 := by
    rw [Num.run, sep_digit hs (by omega)]
    rfl
  unfold Num.readL Num.decL
  rw [e1, Num.run_small 0 (by omega), if_neg (by omega), e2, if_pos rfl]
/-- A number hangs on nothing that stands behind a blank. -/
theorem num_sep {c : UInt8} (hs : Sep c) (L B : List UInt8) : Num.readL (L ++ c :: B) = Num.readL L := by
  by_cases hne : L = []
  · subst hne
    rw [List.nil_append, num_empty hs]
    rfl
  · have h10 := Num.run_le 10 L
    unfold Num.readL Num.lettL Num.decL
    rw [lett_sep hs L B hne, letter_run hs L B hne, nrun_sep 10 c B (sep_digit hs (by omega)), fracE_sep hs L B _ h10, expE_sep hs L B _ (Num.fracE_le L _ h10)]
theorem num_head (L : List UInt8) (h : (Num.readL L).kind ≠ 0) : 48 ≤ Qt.hd L ∧ Qt.hd L ≤ 57 := by
  have key : 48 ≤ Num.bt L 0 ∧ Num.bt L 0 ≤ 57 := by
    unfold Num.readL at h
    split at h
    · rename_i q
      rcases Num.lett_is L with e | e
      · rw [e, Num.run_small 0 (by omega)] at q
        omega
      · have : Num.bt L 0 = 48 := by
          by_cases z : Num.bt L 0 = 48
          · exact z
          · unfold Num.lett at e
            rw [if_neg z] at e
            omega
        omega
    · exact Num.bt_dig L 0 (Num.decL_pos L h).1
  cases L with
  | nil =>
    have : Num.bt [] 0 = 0 := rfl
    omega
  | cons x t => exact key

/-! ### Words -/

theorem sep_class {c : UInt8} (h : Sep c) : classI ((c.toNat : Nat) : Int) = 1 ∧ Wrd.nameB ((c.toNat : Nat) : Int) = false ∧ Wrd.symP ((c.toNat : Nat) : Int) = false := by
  rcases h with rfl | rfl <;> decide +kernel
theorem part_sep {c : UInt8} (hs : Sep c) (L B : List UInt8) : Wrd.part (L ++ c :: B) = Wrd.part L := by
  obtain ⟨k1, k2, k3⟩ := sep_class hs
  have hc := hs.lt
  by_cases hne : L = []
  · subst hne
    rw [List.nil_append]
    unfold Wrd.part
    rw [if_neg (by simp), if_pos rfl, (Wrd.rn_ascii c B (by omega)).1, k1]
    rfl
  · have r1 := run_sep Wrd.nameB c B hc k2 _ L (Nat.le_refl _)
    have r2 := run_sep Wrd.symP c B hc k3 _ L (Nat.le_refl _)
    have l1 := Wrd.run_le Wrd.nameB _ L (Nat.le_refl _)
    have l2 := Wrd.run_le Wrd.symP _ L (Nat.le_refl _)
    unfold Wrd.part
    rw [if_neg (by simp), if_neg hne, rn_sep L c B hne hc, wd_sep L c B hne hc, r1, r2, take_sep L c B _ l1, take_sep L c B _ l2]
theorem more_sep {c : UInt8} (hs : Sep c) (R B : List UInt8) : Wrd.more (R ++ c :: B) = Wrd.more R := by
  cases R with
  | nil =>
    unfold Wrd.more
    rw [if_neg, if_neg (by simp)]
    rintro ⟨-, h, -⟩
    have h : c = 46 := h
    rcases hs with rfl | rfl <;> exact absurd h (by decide)
  | cons x t =>
    have e := part_sep hs t B
    unfold Wrd.more
    simp only [List.cons_append, ne_eq, reduceCtorEq, not_false_eq_true, true_and, List.drop_succ_cons, List.drop_zero, List.getD_cons_zero, e]
theorem wlex_sep {c : UInt8} (hs : Sep c) (B : List UInt8) {L : List UInt8} {k : Int} {n p : Nat} (h : Wrd.Lex L k n p) : Wrd.Lex (L ++ c :: B) k n p := by
  induction h with
  | first h =>
    rw [← part_sep hs L B]
    exact Wrd.Lex.first (by rw [part_sep hs L B]; exact h)
  | more h hk hm ih =>
    rename_i k n p
    have e := drop_sep L c B n h.bd.2.2.1
    have e2 := more_sep hs (L.drop n) B
    rw [← e2, ← e]
    exact Wrd.Lex.more ih hk (by rw [e, e2]; exact hm)
theorem wlex_kind {L : List UInt8} {k : Int} {n p : Nat} (h : Wrd.Lex L k n p) : k = 1 ∨ k = 2 ∨ k = 3 ∨ k = 4 ∨ k = 5 ∨ k = 6 ∨ k = 7 ∨ k = 8 ∨ k = 9 ∨ k = 10 ∨ k = 15 := by
  cases h with
  | first h =>
    have := Wrd.part_kind L
    omega
  | more h hk hm =>
    have := Wrd.more_kind (L.drop p)
    omega
/-- A word hangs on nothing that stands behind a blank. -/
theorem scan_sep {c : UInt8} (hs : Sep c) (L B : List UInt8) (h : (Wrd.scan L).1 ≠ 0) : Wrd.scan (L ++ c :: B) = Wrd.scan L := by
  rcases Wrd.scan_cases L with ⟨e, -⟩ | ⟨hx, hd⟩
  · rw [e] at h
    exact absurd rfl h
  · refine (Wrd.scan_of_lex (wlex_sep hs B hx) (hd.imp id fun q => ?_)).trans rfl
    rw [drop_sep L c B _ hx.bd.2.2.1, more_sep hs]
    exact q
theorem byte_class (x : UInt8) : (48 ≤ x.toNat ∧ x.toNat ≤ 57 → classI ((x.toNat : Nat) : Int) = 4) ∧ (x.toNat = 34 ∨ x.toNat = 39 → classI ((x.toNat : Nat) : Int) = 7) ∧ (x.toNat = 123 → classI ((x.toNat : Nat) : Int) = 6) := by
  have := Not.byte_all (fun x => decide ((48 ≤ x.toNat ∧ x.toNat ≤ 57 → classI ((x.toNat : Nat) : Int) = 4) ∧ (x.toNat = 34 ∨ x.toNat = 39 → classI ((x.toNat : Nat) : Int) = 7) ∧ (x.toNat = 123 → classI ((x.toNat : Nat) : Int) = 6))) (by decide +kernel) x
  exact of_decide_eq_true this
/-- No word begins with a digit or a quote. -/
theorem word_head (L : List UInt8) (h : (Wrd.scan L).1 ≠ 0) : ¬ (48 ≤ Qt.hd L ∧ Qt.hd L ≤ 57) ∧ Qt.hd L ≠ 34 ∧ Qt.hd L ≠ 39 ∧ (classI (rn L) = 2 ∨ classI (rn L) = 3 ∨ classI (rn L) = 5 ∨ classI (rn L) = 6) ∧ L ≠ [] := by
  have hp : (Wrd.part L).1 ≠ 0 := fun e => h (by rw [Wrd.scan_none L e])
  have hne : L ≠ [] := by
    rintro rfl
    exact hp rfl
  have hc : classI (rn L) = 2 ∨ classI (rn L) = 3 ∨ classI (rn L) = 5 ∨ classI (rn L) = 6 := by
    unfold Wrd.part at hp
    rw [if_neg hne] at hp
    by_cases h2 : classI (rn L) = 2
    · exact .inl h2
    by_cases h3 : classI (rn L) = 3
    · exact .inr (.inl h3)
    by_cases h5 : classI (rn L) = 5
    · exact .inr (.inr (.inl h5))
    by_cases h6 : classI (rn L) = 6
    · exact .inr (.inr (.inr h6))
    rw [if_neg h2, if_neg h3, if_neg h5, if_neg h6] at hp
    exact absurd rfl hp
  cases L with
  | nil => exact absurd rfl hne
  | cons x t =>
    have hx := byte_class x
    show ¬ (48 ≤ x.toNat ∧ x.toNat ≤ 57) ∧ x.toNat ≠ 34 ∧ x.toNat ≠ 39 ∧ _
    refine ⟨fun q => ?_, fun q => ?_, fun q => ?_, hc, hne⟩
    all_goals (rw [(Wrd.rn_ascii x t (by omega)).1] at hc)
    · rw [hx.1 q] at hc
      omega
    · rw [hx.2.1 (.inl q)] at hc
      omega
    · rw [hx.2.1 (.inr q)] at hc
      omega

/-! ### Literals -/

/-- A right literal hangs on nothing that stands behind it. -/
theorem read_more (L R : List UInt8) (hq : Qt.quoted L = true) (h : (Qt.readL L).err = 0) :
    Qt.readL (L.take (1 + (Qt.readL L).pos) ++ R) = Qt.readL L ∧ 1 + (Qt.readL L).pos ≤ L.length ∧ 1 ≤ (Qt.readL L).pos := by
  rcases Qt.read_ok L hq h with ⟨q, r, e, h1, h2⟩ | ⟨q, p, r, h0, h1, e, h2, h3, h4, h5⟩
  · have hlen : 1 + (Qt.readL L).pos ≤ L.length := by
      have := congrArg List.length e
      rw [List.length_cons, List.length_append, List.length_cons] at this
      omega
    refine ⟨?_, hlen, by omega⟩
    have hR : Qt.readL L = ⟨(Qt.readL L).ps, (Qt.readL L).pos, 0⟩ := by rw [← h]
    have e2 : L.take (1 + (Qt.readL L).pos) = 34 :: (Qt.flat (Qt.readL L).ps ++ [34]) := by
      conv => lhs; arg 2; rw [e]
      rw [h2, Nat.add_comm 1, List.take_succ_cons, List.take_append]
      simp
      exact List.take_of_length_le (Nat.le_succ _)
    have e3 : L.take (1 + (Qt.readL L).pos) ++ R = 34 :: (Qt.flat (Qt.readL L).ps ++ 34 :: R) := by
      rw [e2, List.cons_append, List.append_assoc]
      rfl
    rw [e3, (Qt.read_text _ _ _ (h1.alone R)).1]
    rw [hR]
    congr 1
    exact h2.symm
  · have hlen : 1 + (Qt.readL L).pos ≤ L.length := by
      have := congrArg List.length e
      rw [List.length_cons, List.length_append, List.length_cons] at this
      omega
    refine ⟨?_, hlen, by omega⟩
    have e2 : L.take (1 + (Qt.readL L).pos) = 39 :: (p.bytes ++ [39]) := by
      conv => lhs; arg 2; rw [e]
      rw [h5, Nat.add_comm 1, List.take_succ_cons, List.take_append]
      simp
      exact List.take_of_length_le (Nat.le_succ _)
    have hR : Qt.readL L = ⟨[p], p.bytes.length + 1, 0⟩ := by rw [← h0, ← h5, ← h]
    have e3 : L.take (1 + (Qt.readL L).pos) ++ R = 39 :: (p.bytes ++ 39 :: R) := by
      rw [e2, List.cons_append, List.append_assoc]
      rfl
    rw [e3, hR]
    unfold Qt.readL
    rw [if_pos (show Qt.hd (39 :: (p.bytes ++ 39 :: R)) = 39 from rfl), List.drop_succ_cons, List.drop_zero]
    exact Qt.chr_alone _ _ p h3 h2 h1 h4 rfl
/-! ### Lexemes -/

/-- The lexeme that a row begins with: its kind, how many bytes it has, 0; or 0, how far on the error stands, and the error. -/
def lexL (L : List UInt8) : Int × Nat × Int :=
  if (Num.readL L).kind ≠ 0 then (((Num.readL L).kind : Int), (Num.readL L).fin, 0)
  else if Qt.quoted L = true then ((if (Qt.readL L).err = 0 then (if Qt.hd L = 39 then 13 else 14) else 0), 1 + (Qt.readL L).pos, (Qt.readL L).err)
  else if (Wrd.scan L).1 ≠ 0 then ((Wrd.scan L).1, (Wrd.scan L).2.1, 0)
  else (0, 0, 70)
/-- What a right lexeme is. -/
theorem lex_cases (L : List UInt8) (h : (lexL L).2.2 = 0) :
    ((Num.readL L).kind ≠ 0 ∧ lexL L = (((Num.readL L).kind : Int), (Num.readL L).fin, 0)) ∨
    ((Num.readL L).kind = 0 ∧ Qt.quoted L = true ∧ (Qt.readL L).err = 0 ∧ lexL L = ((if Qt.hd L = 39 then 13 else 14), 1 + (Qt.readL L).pos, 0)) ∨
    ((Num.readL L).kind = 0 ∧ Qt.quoted L = false ∧ (Wrd.scan L).1 ≠ 0 ∧ lexL L = ((Wrd.scan L).1, (Wrd.scan L).2.1, 0)) := by
  unfold lexL at h ⊢
  split at h
  · rename_i h1
    rw [if_pos h1]
    exact .inl ⟨h1, rfl⟩
  · rename_i h1
    rw [if_neg h1]
    split at h
    · rename_i h2
      rw [if_pos h2, if_pos h]
      dsimp only at h
      exact .inr (.inl ⟨by omega, h2, h, by rw [h]⟩)
    · rename_i h2
      rw [if_neg h2]
      split at h
      · rename_i h3
        rw [if_pos h3]
        exact .inr (.inr ⟨by omega, by simpa using h2, h3, rfl⟩)
      · exact absurd h (by decide)
theorem lex_ne (L : List UInt8) (h : (lexL L).2.2 = 0) : L ≠ [] := by
  rintro rfl
  exact absurd h (by decide)
theorem lex_kind (L : List UInt8) (h : (lexL L).2.2 = 0) : 1 ≤ (lexL L).1 ∧ (lexL L).1 ≤ 15 ∧ 1 ≤ (lexL L).2.1 ∧ (lexL L).2.1 ≤ L.length := by
  rcases lex_cases L h with ⟨h1, e⟩ | ⟨h1, h2, h3, e⟩ | ⟨h1, h2, h3, e⟩
  · rw [e]
    have a := Num.readL_pos L h1
    have b := Num.readL_fin L
    rcases Num.readL_kind L with k | k | k
    · exact absurd k.1 h1
    all_goals (rw [k]; exact ⟨by dsimp only; omega, by dsimp only; omega, by dsimp only; omega, b⟩)
  · rw [e]
    obtain ⟨a, b, c⟩ := read_more L [] h2 h3
    refine ⟨?_, ?_, by dsimp only; omega, b⟩
    all_goals (dsimp only; split <;> decide)
  · rw [e]
    rcases Wrd.scan_cases L with ⟨q, -⟩ | ⟨hx, -⟩
    · rw [q] at h3
      exact absurd rfl h3
    · have hb := hx.bd
      have hk : (Wrd.scan L).1 = 1 ∨ (Wrd.scan L).1 = 2 ∨ (Wrd.scan L).1 = 3 ∨ (Wrd.scan L).1 = 4 ∨ (Wrd.scan L).1 = 5 ∨ (Wrd.scan L).1 = 6 ∨ (Wrd.scan L).1 = 7 ∨ (Wrd.scan L).1 = 8 ∨ (Wrd.scan L).1 = 9 ∨ (Wrd.scan L).1 = 10 ∨ (Wrd.scan L).1 = 15 := by
        exact wlex_kind hx
      exact ⟨by dsimp only; omega, by dsimp only; omega, hb.2.1, hb.2.2.1⟩
/-- A lexeme hangs on nothing that stands behind a blank. -/
theorem lex_sep {c : UInt8} (hs : Sep c) (L B : List UInt8) (h : (lexL L).2.2 = 0) : lexL (L ++ c :: B) = lexL L := by
  have hne := lex_ne L h
  have hh : Qt.hd (L ++ c :: B) = Qt.hd L := by
    cases L with
    | nil => exact absurd rfl hne
    | cons x t => rfl
  have hq : Qt.quoted (L ++ c :: B) = Qt.quoted L := by
    unfold Qt.quoted
    rw [hh]
  rcases lex_cases L h with ⟨h1, e⟩ | ⟨h1, h2, h3, e⟩ | ⟨h1, h2, h3, e⟩
  · rw [e]
    unfold lexL
    rw [num_sep hs, if_pos h1]
  · obtain ⟨a, b, -⟩ := read_more L (L.drop (1 + (Qt.readL L).pos) ++ c :: B) h2 h3
    rw [← List.append_assoc, List.take_append_drop] at a
    rw [e]
    unfold lexL
    rw [num_sep hs, if_neg (by omega), hq, if_pos h2, a, hh, if_pos h3, h3]
  · rw [e]
    unfold lexL
    rw [num_sep hs, if_neg (by omega), hq, if_neg (by rw [h2]; decide), scan_sep hs L B h3, if_pos h3]
/-- A lexeme by itself. -/
theorem lex_alone (L : List UInt8) (h : (lexL L).2.2 = 0) : lexL (L.take (lexL L).2.1) = lexL L := by
  have hne := lex_ne L h
  have hk := lex_kind L h
  have hh : ∀ n, 1 ≤ n → Qt.hd (L.take n) = Qt.hd L := fun n hn => Qt.hd_take L n (by omega)
  have hq : ∀ n, 1 ≤ n → Qt.quoted (L.take n) = Qt.quoted L := fun n hn => by
    unfold Qt.quoted
    rw [hh n hn]
  rcases lex_cases L h with ⟨h1, e⟩ | ⟨h1, h2, h3, e⟩ | ⟨h1, h2, h3, e⟩
  · rw [e]
    dsimp only
    unfold lexL
    rw [Num.readL_take L h1, if_pos h1]
  · have hn : (Num.readL (L.take (1 + (Qt.readL L).pos))).kind = 0 := by
      by_cases z : (Num.readL (L.take (1 + (Qt.readL L).pos))).kind = 0
      · exact z
      · have := num_head _ z
        rw [hh _ (by omega)] at this
        have := Qt.quoted_is L h2
        omega
    rw [e]
    dsimp only
    unfold lexL
    rw [hn, if_neg (by omega), hq _ (by omega), if_pos h2, (Qt.read_alone L h2 h3).1, hh _ (by omega), if_pos h3, h3]
  · obtain ⟨w1, w2, w3, w4, w5⟩ := word_head L h3
    have hn1 : 1 ≤ (Wrd.scan L).2.1 := by
      rw [e] at hk
      exact hk.2.2.1
    have hn : (Num.readL (L.take (Wrd.scan L).2.1)).kind = 0 := by
      by_cases z : (Num.readL (L.take (Wrd.scan L).2.1)).kind = 0
      · exact z
      · have := num_head _ z
        rw [hh _ hn1] at this
        exact absurd this w1
    rw [e]
    dsimp only
    unfold lexL
    rw [hn, if_neg (by omega), hq _ hn1, if_neg (by rw [h2]; decide), Wrd.scan_alone L h3, if_pos h3]

/-! ### Comments -/

theorem opn_sep {c : UInt8} (hs : Sep c) (L B : List UInt8) : Not.opn (L ++ c :: B) = Not.opn L := by
  match L with
  | [] =>
    cases B with
    | nil => rfl
    | cons b t =>
      show (c == 123 && b == 45) = false
      rcases hs with rfl | rfl <;> simp
  | [x] =>
    show (x == 123 && c == 45) = false
    rcases hs with rfl | rfl <;> simp
  | x :: y :: t => rfl
theorem syms_sep {c : UInt8} (hs : Sep c) (L B : List UInt8) : Wrd.run Not.symP (L ++ c :: B) = Wrd.run Not.symP L :=
  run_sep Not.symP c B hs.lt (sep_class hs).2.2 _ L (Nat.le_refl _)
theorem syms_le (L : List UInt8) : Wrd.run Not.symP L ≤ L.length := Wrd.run_le Not.symP _ L (Nat.le_refl _)
/-- What there is of comments. -/
theorem note_cases (L : List UInt8) : (Not.opn L = true ∧ Not.endA 1 0 (L.drop 2) = 0 ∧ Not.scanN L = (0, 60)) ∨ (Not.opn L = true ∧ Not.endA 1 0 (L.drop 2) ≠ 0 ∧ Not.scanN L = (Not.endA 1 0 (L.drop 2) + 2, 0)) ∨
    (Not.opn L = false ∧ Not.dsh (L.take (Wrd.run Not.symP L)) = true ∧ 2 ≤ Wrd.run Not.symP L ∧ Not.scanN L = (Wrd.run Not.symP L + Not.nlEnd (L.drop (Wrd.run Not.symP L)), 0)) ∨
    (Not.opn L = false ∧ Not.dsh (L.take (Wrd.run Not.symP L)) = false ∧ Not.scanN L = (0, 0)) := by
  unfold Not.scanN
  cases ho : Not.opn L with
  | true =>
    rw [if_pos rfl]
    by_cases he : Not.endA 1 0 (L.drop 2) = 0
    · exact .inl ⟨rfl, he, by rw [if_pos he]⟩
    · exact .inr (.inl ⟨rfl, he, by rw [if_neg he]⟩)
  | false =>
    rw [if_neg (by decide)]
    cases hd : Not.dsh (L.take (Wrd.run Not.symP L)) with
    | true =>
      have h2 := Not.dsh_len hd
      rw [List.length_take] at h2
      exact .inr (.inr (.inl ⟨rfl, rfl, by omega, by rw [if_pos rfl]⟩))
    | false => exact .inr (.inr (.inr ⟨rfl, rfl, by rw [if_neg (by decide)]⟩))
/-- Where no comment begins, none does with a blank behind. -/
theorem none_sep {c : UInt8} (hs : Sep c) (L B : List UInt8) (h : Not.scanN L = (0, 0)) : Not.scanN (L ++ c :: B) = (0, 0) := by
  rcases note_cases L with ⟨-, -, e⟩ | ⟨-, -, e⟩ | ⟨-, -, h2, e⟩ | ⟨h1, h2, e⟩
  · rw [e] at h
    exact absurd (congrArg Prod.snd h) (by decide)
  · rw [e] at h
    have := congrArg Prod.fst h
    dsimp only at this
    omega
  · rw [e] at h
    have := congrArg Prod.fst h
    dsimp only at this
    omega
  · unfold Not.scanN
    rw [opn_sep hs, h1, if_neg (by decide), syms_sep hs, take_sep L c B _ (syms_le L), h2, if_neg (by decide)]
/-- Where a lexeme begins and no comment, none begins at the lexeme by itself. -/
theorem none_alone (L : List UInt8) (h0 : Not.scanN L = (0, 0)) (h : (lexL L).2.2 = 0) : Not.scanN (L.take (lexL L).2.1) = (0, 0) := by
  have hk := lex_kind L h
  have hne := lex_ne L h
  generalize hn : (lexL L).2.1 = n at hk
  have ho : Not.opn (L.take n) = false := by
    cases ho : Not.opn (L.take n) with
    | false => rfl
    | true =>
      exfalso
      have : Not.opn L = true := by
        match L, n, ho with
        | x :: y :: t, m + 2, ho => exact ho
        | [], _, ho => simp [Not.opn] at ho
        | [x], 0, ho => simp [Not.opn] at ho
        | [x], m + 1, ho => simp [Not.opn] at ho
        | x :: y :: t, 0, ho => simp [Not.opn] at ho
        | x :: y :: t, 1, ho => simp [Not.opn] at ho
      rcases note_cases L with ⟨-, -, e⟩ | ⟨-, -, e⟩ | ⟨q, -⟩ | ⟨q, -⟩
      · rw [e] at h0
        exact absurd (congrArg Prod.snd h0) (by decide)
      · rw [e] at h0
        have := congrArg Prod.fst h0
        dsimp only at this
        omega
      · rw [this] at q
        cases q
      · rw [this] at q
        cases q
  have hd : Not.dsh ((L.take n).take (Wrd.run Not.symP (L.take n))) = false := by
    have hT : L.take n ≠ [] := by
      intro e
      have := congrArg List.length e
      rw [List.length_take, List.length_nil] at this
      omega
    cases hs : Not.symP (rn (L.take n)) with
    | false =>
      rw [Wrd.run_stop Not.symP _ (.inr hs)]
      rfl
    | true =>
      have hb : rn (L.take n) ≠ 65533 := by
        intro e
        rw [e, Not.sym_bad] at hs
        cases hs
      have hl := Wrd.wd_le (L.take n) hT
      rw [List.length_take] at hl
      have hdec := Wrd.dec_same (L.take n) L hb (by omega) (by rw [List.take_take, Nat.min_eq_left (by omega)])
      have hr : rn L = rn (L.take n) := by
        unfold Wrd.rn
        rw [hdec]
      have hcl : classI (rn L) = 5 := by
        rw [hr]
        unfold Not.symP at hs
        exact beq_iff_eq.1 hs
      have hsc : n = Wrd.run Not.symP L := by
        rcases lex_cases L h with ⟨h1, e⟩ | ⟨h1, h2, h3, e⟩ | ⟨h1, h2, h3, e⟩
        · exfalso
          have q := num_head L h1
          cases L with
          | nil => exact hne rfl
          | cons x t =>
            have q' : 48 ≤ x.toNat ∧ x.toNat ≤ 57 := q
            rw [(Wrd.rn_ascii x t (by omega)).1, (byte_class x).1 q'] at hcl
            omega
        · exfalso
          have q := Qt.quoted_is L h2
          cases L with
          | nil => exact hne rfl
          | cons x t =>
            have q' : x.toNat = 34 ∨ x.toNat = 39 := q
            rw [(Wrd.rn_ascii x t (by omega)).1, (byte_class x).2.1 q'] at hcl
            omega
        · have hp : Wrd.part L = (Wrd.symK (Wrd.bts (L.take (Wrd.run Wrd.symP L))), Wrd.run Wrd.symP L) := by
            unfold Wrd.part
            rw [if_neg hne, hcl]
            rfl
          have hkk := Wrd.symK_cases (Wrd.bts (L.take (Wrd.run Wrd.symP L)))
          have hx : Wrd.Lex L (Wrd.part L).1 (Wrd.part L).2 0 := .first (by rw [hp]; dsimp only; omega)
          have := Wrd.scan_of_lex hx (.inl (by rw [hp]; dsimp only; omega))
          rw [e, this, hp] at hn
          exact hn.symm
      rw [hsc, Not.run_take L _ (Nat.le_refl _), List.take_take, Nat.min_self]
      rcases note_cases L with ⟨-, -, e⟩ | ⟨-, -, e⟩ | ⟨-, -, h2, e⟩ | ⟨q, q2, -⟩
      · rw [e] at h0
        exact absurd (congrArg Prod.snd h0) (by decide)
      · rw [e] at h0
        have := congrArg Prod.fst h0
        dsimp only at this
        omega
      · rw [e] at h0
        have := congrArg Prod.fst h0
        dsimp only at this
        omega
      · exact q2
  unfold Not.scanN
  rw [ho, if_neg (by decide), hd, if_neg (by decide)]
end Go.Proofs.YtmgclgojmckfhaaGreatDoor.Lx
/-
  A row of bytes taken apart into tokens and comments: two rows with a newline between have the items of both; the tokens spelt one behind another, with blanks between, are taken apart into these tokens. And: which rows are runes that may stand in a text, all of them; that a token is such a row, and what follows it. No program is run here.
-/
namespace Go.Proofs.YtmgclgojmckfhaaGreatDoor.Lx
open Go.Lib Gly
open Wrd (rn wd)
set_option linter.unusedSimpArgs false
set_option linter.unusedVariables false

/-- A row's tokens (their kinds, and their bytes) and comments (kind -1), one behind another. -/
inductive Lx : List UInt8 → List (Int × List UInt8) → Prop
  | nil : Lx [] []
  | blank {b : UInt8} {L : List UInt8} {ts : List (Int × List UInt8)} (hb : Not.blk b = true) (h : Lx L ts) : Lx (b :: L) ts
  | note {L : List UInt8} {ts : List (Int × List UInt8)} (hn : (Not.scanN L).1 ≠ 0) (h : Lx (L.drop (Not.scanN L).1) ts) : Lx L ((-1, L.take (Not.scanN L).1) :: ts)
  | tok {L : List UInt8} {ts : List (Int × List UInt8)} (h0 : Not.scanN L = (0, 0)) (he : (lexL L).2.2 = 0) (h : Lx (L.drop (lexL L).2.1) ts) : Lx L (((lexL L).1, L.take (lexL L).2.1) :: ts)
/-! ### Spelt -/

/-- The tokens among the items. -/
def toks (ts : List (Int × List UInt8)) : List (Int × List UInt8) := ts.filter fun t => decide (0 ≤ t.1)
theorem toks_note (x : List UInt8) (r : List (Int × List UInt8)) : toks ((-1, x) :: r) = toks r := by simp [toks]
/-- A token by itself. -/
def Good (t : Int × List UInt8) : Prop := lexL t.2 = (t.1, t.2.length, 0) ∧ Not.scanN t.2 = (0, 0) ∧ 1 ≤ t.1
theorem Lx.good {L : List UInt8} {ts : List (Int × List UInt8)} (h : Lx L ts) : ∀ t ∈ toks ts, Good t := by
  induction h with
  | nil => exact fun t ht => by simp [toks] at ht
  | blank hb h ih => exact ih
  | note hn h ih =>
    intro t ht
    rw [toks_note] at ht
    exact ih t ht
  | tok h0 he h ih =>
    rename_i L ts
    intro t ht
    have hk := lex_kind L he
    unfold toks at ht
    rw [List.filter_cons_of_pos (by simp only [decide_eq_true_eq]; omega)] at ht
    rcases List.mem_cons.1 ht with rfl | ht
    · refine ⟨?_, none_alone L h0 he, hk.1⟩
      dsimp only
      rw [lex_alone L he, List.length_take, Nat.min_eq_left hk.2.2.2, ← he]
    · exact ih t ht
theorem Good.step {t : Int × List UInt8} (h : Good t) (R : List UInt8) (hR : R = [] ∨ ∃ B, R = 32 :: B) {ts : List (Int × List UInt8)} (hL : Lx R ts) : Lx (t.2 ++ R) (t :: ts) := by
  obtain ⟨h1, h2, h3⟩ := h
  have key : lexL (t.2 ++ R) = (t.1, t.2.length, 0) ∧ Not.scanN (t.2 ++ R) = (0, 0) := by
    rcases hR with rfl | ⟨B, rfl⟩
    · rw [List.append_nil]
      exact ⟨h1, h2⟩
    · exact ⟨by rw [lex_sep (.inr rfl) t.2 B (by rw [h1]), h1], none_sep (.inr rfl) t.2 B h2⟩
  have := Lx.tok (L := t.2 ++ R) (ts := ts) key.2 (by rw [key.1]) (by rw [key.1, List.drop_left]; exact hL)
  rw [key.1, List.take_left] at this
  exact this
/-- The texts of tokens, a blank ahead of each. -/
def tailS : List (Int × List UInt8) → List UInt8
  | [] => []
  | t :: r => 32 :: (t.2 ++ tailS r)
/-- The texts of tokens, blanks between. -/
def spellS : List (Int × List UInt8) → List UInt8
  | [] => []
  | t :: r => t.2 ++ tailS r
theorem tailS_head : ∀ r, tailS r = [] ∨ ∃ B, tailS r = 32 :: B
  | [] => .inl rfl
  | t :: r => .inr ⟨_, rfl⟩
theorem tailS_lx : ∀ r : List (Int × List UInt8), (∀ t ∈ r, Good t) → Lx (tailS r) r
  | [], _ => .nil
  | t :: r, h => .blank (by decide) (Good.step (h t (List.mem_cons_self ..)) _ (tailS_head r) (tailS_lx r fun u hu => h u (List.mem_cons_of_mem _ hu)))
theorem spellS_lx (r : List (Int × List UInt8)) (h : ∀ t ∈ r, Good t) : Lx (spellS r) r := by
  cases r with
  | nil => exact .nil
  | cons t r => exact Good.step (h t (List.mem_cons_self ..)) _ (tailS_head r) (tailS_lx r fun u hu => h u (List.mem_cons_of_mem _ hu))
/-! ### Rows of runes that may stand in a text -/

/-- All runes of a row are runes, of some class. -/
inductive Ok : List UInt8 → Prop
  | nil : Ok []
  | step {L : List UInt8} (hne : L ≠ []) (hg : decodeL L ≠ (65533, 1)) (hc : classI (rn L) ≠ 0) (h : Ok (L.drop (wd L))) : Ok L
/-- A place between two runes. -/
inductive Bd : List UInt8 → Nat → Prop
  | zero (L : List UInt8) : Bd L 0
  | step {L : List UInt8} {n : Nat} (hne : L ≠ []) (h : Bd (L.drop (wd L)) n) : Bd L (wd L + n)
theorem Bd.add {L : List UInt8} {n m : Nat} (h : Bd L n) (k : Bd (L.drop n) m) : Bd L (n + m) := by
  induction h with
  | zero L =>
    rw [Nat.zero_add]
    exact k
  | step hne h ih =>
    rw [List.drop_drop] at ih
    rw [Nat.add_assoc]
    exact .step hne (ih k)
theorem Bd.le {L : List UInt8} {n : Nat} (h : Bd L n) : n ≤ L.length := by
  induction h with
  | zero L => exact Nat.zero_le _
  | step hne h ih =>
    have := Wrd.wd_le _ hne
    rw [List.length_drop] at ih
    omega
theorem Ok.drop {L : List UInt8} {n : Nat} (h : Bd L n) : Ok L → Ok (L.drop n) := by
  induction h with
  | zero L => exact fun h => h
  | step hne h ih =>
    intro k
    cases k with
    | nil => exact absurd rfl hne
    | step _ _ _ k =>
      rw [← List.drop_drop]
      exact ih k
theorem Ok.app {A B : List UInt8} (h : Ok A) (k : Ok B) : Ok (A ++ B) := by
  induction h with
  | nil => exact k
  | step hne hg hc h ih =>
    rename_i L
    have hl := Wrd.wd_le L hne
    have e := Qt.dec_same L (L ++ B) hg (by rw [List.length_append]; omega) (List.take_append_of_le_length hl)
    have e2 : wd (L ++ B) = wd L := by unfold Wrd.wd; rw [e]
    have e3 : rn (L ++ B) = rn L := by unfold Wrd.rn; rw [e]
    refine .step (by simp [hne]) (by rw [e]; exact hg) (by rw [e3]; exact hc) ?_
    rw [e2, List.drop_append_of_le_length hl]
    exact ih
theorem Ok.take {L : List UInt8} {n : Nat} (h : Bd L n) : Ok L → Ok (L.take n) := by
  induction h with
  | zero L => exact fun _ => .nil
  | step hne h ih =>
    rename_i L n
    intro k
    cases k with
    | nil => exact absurd rfl hne
    | step _ hg hc k =>
      have hl := Wrd.wd_le L hne
      have hw := Wrd.wd_pos L
      have e := Qt.dec_same L (L.take (wd L + n)) hg (by rw [List.length_take]; omega) (by rw [List.take_take, Nat.min_eq_left (by omega)])
      have e2 : wd (L.take (wd L + n)) = wd L := congrArg Prod.snd e
      have e3 : rn (L.take (wd L + n)) = rn L := congrArg (fun x : Nat × Nat => ((x.1 : Nat) : Int)) e
      refine .step ?_ (by rw [e]; exact hg) (by rw [e3]; exact hc) ?_
      · intro z
        have := congrArg List.length z
        rw [List.length_take, List.length_nil] at this
        omega
      · rw [e2, List.drop_take, Nat.add_sub_cancel_left]
        exact ih k
theorem ok_ascii (b : UInt8) (L : List UInt8) (hb : b.toNat < 128) (hc : classI ((b.toNat : Nat) : Int) ≠ 0) (h : Ok L) : Ok (b :: L) := by
  obtain ⟨e1, e2⟩ := Wrd.rn_ascii b L hb
  refine .step (by simp) ?_ (by rw [e1]; exact hc) (by rw [e2]; exact h)
  intro z
  unfold Wrd.rn at e1
  rw [z] at e1
  dsimp only at e1
  omega
/-- Behind a byte that is ASCII there is a place between two runes. -/
theorem bd_behind : ∀ (k : Nat) (L : List UInt8), L.length ≤ k → Ok L → ∀ n, 1 ≤ n → n ≤ L.length → (L.getD (n - 1) 0).toNat < 128 → Bd L n := by
  intro k
  induction k with
  | zero => exact fun L hl _ n h1 h2 _ => absurd h1 (by omega)
  | succ k ih =>
    intro L hl hL n h1 h2 hb
    cases hL with
    | nil => exact absurd h1 (by simp at h2; omega)
    | step hne hg hc h =>
      have hw := Wrd.wd_pos L
      have hx := Wrd.wd_le L hne
      rcases Nat.lt_trichotomy n (wd L) with q | q | q
      · exfalso
        have hwide : 128 ≤ rn L := by
          rcases (show rn L < 128 ∨ 128 ≤ rn L by omega) with z | z
          · have := (Wrd.ascii_rn L z).1
            omega
          · exact z
        have hm : L.getD (n - 1) 0 ∈ L.take (wd L) := by
          rw [Wrd.getD_take (k := wd L) (by omega), List.getD_eq_getElem?_getD, List.getElem?_eq_getElem (by rw [List.length_take]; omega)]
          exact List.getElem_mem _
        have := Qt.rn_wide L hwide hg _ hm
        omega
      · subst q
        exact .step hne (.zero _)
      · have hr := ih (L.drop (wd L)) (by rw [List.length_drop]; omega) h (n - wd L) (by omega) (by rw [List.length_drop]; omega) (by
          rw [List.getD_eq_getElem?_getD, List.getElem?_drop, ← List.getD_eq_getElem?_getD, show wd L + (n - wd L - 1) = n - 1 by omega]
          exact hb)
        have := Bd.step hne hr
        rw [show wd L + (n - wd L) = n by omega] at this
        exact this
/-- So there is ahead of such a byte, and at the end. -/
theorem bd_ahead : ∀ (k : Nat) (L : List UInt8), L.length ≤ k → Ok L → ∀ n, n ≤ L.length → (n = L.length ∨ (L.getD n 0).toNat < 128) → Bd L n := by
  intro k
  induction k with
  | zero =>
    intro L hl _ n h2 _
    obtain rfl : n = 0 := by omega
    exact .zero _
  | succ k ih =>
    intro L hl hL n h2 hb
    by_cases hn : n = 0
    · subst hn
      exact .zero _
    cases hL with
    | nil => exact absurd h2 (by simp; omega)
    | step hne hg hc h =>
      have hw := Wrd.wd_pos L
      have hx := Wrd.wd_le L hne
      rcases Nat.lt_trichotomy n (wd L) with q | q | q
      · exfalso
        have hwide : 128 ≤ rn L := by
          rcases (show rn L < 128 ∨ 128 ≤ rn L by omega) with z | z
          · have := (Wrd.ascii_rn L z).1
            omega
          · exact z
        have hm : L.getD n 0 ∈ L.take (wd L) := by
          rw [Wrd.getD_take (k := wd L) (by omega), List.getD_eq_getElem?_getD, List.getElem?_eq_getElem (by rw [List.length_take]; omega)]
          exact List.getElem_mem _
        have := Qt.rn_wide L hwide hg _ hm
        omega
      · subst q
        exact .step hne (.zero _)
      · have hr := ih (L.drop (wd L)) (by rw [List.length_drop]; omega) h (n - wd L) (by rw [List.length_drop]; omega) (by
          rw [List.length_drop, List.getD_eq_getElem?_getD, List.getElem?_drop, ← List.getD_eq_getElem?_getD, show wd L + (n - wd L) = n by omega]
          exact hb.imp (fun z => by omega) id)
        have := Bd.step hne hr
        rw [show wd L + (n - wd L) = n by omega] at this
        exact this
theorem bd_run (P : Int → Bool) : ∀ (k : Nat) (L : List UInt8), L.length ≤ k → Bd L (Wrd.run P L) := by
  intro k
  induction k with
  | zero =>
    intro L hl
    obtain rfl : L = [] := List.eq_nil_of_length_eq_zero (by omega)
    rw [Wrd.run_stop P [] (.inl rfl)]
    exact .zero _
  | succ k ih =>
    intro L hl
    by_cases hne : L = []
    · rw [Wrd.run_stop P L (.inl hne)]
      exact .zero _
    cases hp : P (rn L) with
    | false =>
      rw [Wrd.run_stop P L (.inr hp)]
      exact .zero _
    | true =>
      have hw := Wrd.wd_pos L
      rw [Wrd.run_step P L hne hp]
      exact .step hne (ih _ (by rw [List.length_drop]; omega))
theorem bd_one {L : List UInt8} (hne : L ≠ []) : Bd L (wd L) := .step hne (.zero _)

/-! ### Tokens and comments end between runes -/

theorem digit_lt (b : Nat) (x : UInt8) (h : Num.isD b x = true) : x.toNat < 128 := by
  have h2 := Num.dg_bd b x
  have h3 : 0 ≤ Num.dg b x := of_decide_eq_true h
  have h4 := (h2.2.2 h3)
  have : Num.dg b x = digitI ((x.toNat : Nat) : Int) (b : Int) := rfl
  rcases Nat.lt_or_ge x.toNat 128 with q | q
  · exact q
  · exfalso
    have hv : digitI ((x.toNat : Nat) : Int) (b : Int) = -1 := by
      unfold digitI digV
      repeat' split
      all_goals omega
    omega
theorem run_last (b : Nat) (L : List UInt8) (a : Nat) (h : 0 < Num.run b (L.drop a)) : (L.getD (a + Num.run b (L.drop a) - 1) 0).toNat < 128 := by
  obtain ⟨x, hx, hd⟩ := Num.bt_run b (L.drop a) (Num.run b (L.drop a) - 1) (by omega)
  rw [List.getElem?_drop] at hx
  rw [List.getD_eq_getElem?_getD, show a + Num.run b (L.drop a) - 1 = a + (Num.run b (L.drop a) - 1) by omega, hx]
  exact digit_lt b x hd
theorem endOr_last (L : List UInt8) (a o : Nat) (h : (L.getD (o - 1) 0).toNat < 128) : (L.getD (Num.endOr L a o - 1) 0).toNat < 128 := by
  unfold Num.endOr
  split
  · rename_i q
    exact run_last 10 L a q
  · exact h
theorem num_last (L : List UInt8) (h : (Num.readL L).kind ≠ 0) : (L.getD ((Num.readL L).fin - 1) 0).toNat < 128 := by
  unfold Num.readL at h ⊢
  split
  · rename_i q
    unfold Num.lettL
    rw [if_pos q]
    exact run_last _ L 2 q
  · rename_i q
    rw [if_neg q] at h
    obtain ⟨h1, h2⟩ := Num.decL_pos L h
    rw [h2]
    have h0 := run_last 10 L 0 (by rw [List.drop_zero]; exact h1)
    rw [List.drop_zero, Nat.zero_add] at h0
    have hf : (L.getD (Num.fracE L (Num.run 10 L) - 1) 0).toNat < 128 := by
      unfold Num.fracE
      split
      · exact endOr_last L _ _ h0
      · exact h0
    unfold Num.expE
    split
    · exact endOr_last L _ _ hf
    · exact hf
theorem bd_part (L : List UInt8) (h : (Wrd.part L).1 ≠ 0) : Bd L (Wrd.part L).2 := by
  have hne : L ≠ [] := by
    rintro rfl
    exact h rfl
  unfold Wrd.part
  rw [if_neg hne]
  repeat' split
  · exact bd_run _ _ L (Nat.le_refl _)
  · exact bd_run _ _ L (Nat.le_refl _)
  · exact bd_run _ _ L (Nat.le_refl _)
  · exact bd_one hne
  · exact .zero _
theorem bd_word {L : List UInt8} {k : Int} {n p : Nat} (h : Wrd.Lex L k n p) : Bd L n := by
  induction h with
  | first h => exact bd_part L h
  | more h hk hm ih =>
    rename_i k n p
    refine ih.add ?_
    rcases Wrd.more_cases (L.drop n) with ⟨e, -⟩ | ⟨a, b, c, e⟩
    · rw [e] at hm
      exact absurd rfl hm
    · rw [e]
      dsimp only
      have hq : (Wrd.part ((L.drop n).drop 1)).1 ≠ 0 := by
        intro z
        rw [z] at c
        exact c rfl
      have hr := Wrd.point_head b
      have hw : wd (L.drop n) = 1 := (Wrd.ascii_rn _ (by rw [hr]; decide)).1
      have := Bd.step (L := L.drop n) a (by rw [hw]; exact bd_part _ hq)
      rw [hw] at this
      exact this
/-- A lexeme ends between two runes. -/
theorem bd_lex (L : List UInt8) (hL : Ok L) (h : (lexL L).2.2 = 0) : Bd L (lexL L).2.1 := by
  have hk := lex_kind L h
  rcases lex_cases L h with ⟨h1, e⟩ | ⟨h1, h2, h3, e⟩ | ⟨h1, h2, h3, e⟩
  · rw [e] at hk ⊢
    exact bd_behind _ L (Nat.le_refl _) hL _ hk.2.2.1 hk.2.2.2 (num_last L h1)
  · rw [e] at hk ⊢
    refine bd_behind _ L (Nat.le_refl _) hL _ hk.2.2.1 hk.2.2.2 ?_
    dsimp only
    rw [Nat.add_sub_cancel_left]
    rcases Qt.read_ok L h2 h3 with ⟨q, r, e1, -, e2⟩ | ⟨q, p, r, -, -, e1, -, -, -, e2⟩
    · rw [e2]
      conv => lhs; arg 1; arg 1; rw [e1]
      rw [List.getD_cons_succ, List.getD_eq_getElem?_getD, List.getElem?_append_right (Nat.le_refl _), Nat.sub_self]
      show (34 : UInt8).toNat < 128
      decide
    · rw [e2]
      conv => lhs; arg 1; arg 1; rw [e1]
      rw [List.getD_cons_succ, List.getD_eq_getElem?_getD, List.getElem?_append_right (Nat.le_refl _), Nat.sub_self]
      show (39 : UInt8).toNat < 128
      decide
  · rw [e]
    rcases Wrd.scan_cases L with ⟨q, -⟩ | ⟨hx, -⟩
    · rw [q] at h3
      exact absurd rfl h3
    · exact bd_word hx
/-- A nested comment's last byte. -/
theorem endA_last : ∀ (L : List UInt8) (d q : Nat), d ≠ 0 → Not.endA d q L ≠ 0 → L.getD (Not.endA d q L - 1) 0 = 125
  | [], d, q, _, h => absurd rfl h
  | b :: r, d, q, hd, h => by
    have hr := endA_last r (Not.stp d q b).1 (Not.stp d q b).2
    rw [Not.endA] at h ⊢
    by_cases h0 : (Not.stp d q b).1 = 0
    · rw [if_pos h0]
      show b = 125
      unfold Not.stp at h0
      split at h0
      · dsimp only at h0
        omega
      · split at h0
        · rename_i z
          exact z.2
        · split at h0
          · exact absurd h0 hd
          · split at h0
            · exact absurd h0 hd
            · exact absurd h0 hd
    · rw [if_neg h0] at h ⊢
      by_cases h1 : Not.endA (Not.stp d q b).1 (Not.stp d q b).2 r = 0
      · rw [if_pos h1] at h
        exact absurd rfl h
      · rw [if_neg h1]
        have e := hr h0 h1
        obtain ⟨k, hk⟩ : ∃ k, Not.endA (Not.stp d q b).1 (Not.stp d q b).2 r = k + 1 := ⟨_, (Nat.succ_pred_eq_of_ne_zero h1).symm⟩
        rw [hk] at e ⊢
        exact e
theorem nlEnd_at : ∀ L : List UInt8, Not.nlEnd L = L.length ∨ (L.getD (Not.nlEnd L) 0).toNat < 128
  | [] => .inl rfl
  | b :: r => by
    rw [Not.nlEnd]
    split
    · rename_i h
      right
      have := Not.byte_all (fun b => !Not.nl b || decide (b.toNat < 128)) (by decide +kernel) b
      rw [h] at this
      simpa using this
    · rcases nlEnd_at r with e | e
      · exact .inl (by rw [e, List.length_cons])
      · exact .inr (by rw [List.getD_cons_succ]; exact e)
/-- So does a comment. -/
theorem bd_note (L : List UInt8) (hL : Ok L) (h : (Not.scanN L).1 ≠ 0) : Bd L (Not.scanN L).1 := by
  have hle := Not.scanN_le L
  rcases note_cases L with ⟨-, -, e⟩ | ⟨h1, h2, e⟩ | ⟨h1, h2, h3, e⟩ | ⟨-, -, e⟩
  · rw [e] at h
    exact absurd rfl h
  · rw [e] at hle ⊢
    dsimp only at hle ⊢
    refine bd_behind _ L (Nat.le_refl _) hL _ (by omega) hle ?_
    have := endA_last _ _ _ (by decide) h2
    rw [List.getD_eq_getElem?_getD, List.getElem?_drop, ← List.getD_eq_getElem?_getD] at this
    rw [show Not.endA 1 0 (L.drop 2) + 2 - 1 = 2 + (Not.endA 1 0 (L.drop 2) - 1) by omega, this]
    decide
  · rw [e] at hle ⊢
    dsimp only at hle ⊢
    refine bd_ahead _ L (Nat.le_refl _) hL _ hle ?_
    rcases nlEnd_at (L.drop (Wrd.run Not.symP L)) with z | z
    · left
      have := syms_le L
      rw [z, List.length_drop]
      omega
    · right
      rw [List.getD_eq_getElem?_getD, List.getElem?_drop, ← List.getD_eq_getElem?_getD] at z
      exact z
  · rw [e] at h
    exact absurd rfl h
/-- What is spelt of the tokens of such a row is such a row. -/
theorem Lx.ok {L : List UInt8} {ts : List (Int × List UInt8)} (h : Lx L ts) : Ok L → ∀ t ∈ toks ts, Ok t.2 := by
  induction h with
  | nil => exact fun _ t ht => by simp [toks] at ht
  | blank hb h ih =>
    rename_i b L ts
    intro k
    have hb' : b.toNat < 128 := by
      have := Not.byte_all (fun b => !Not.blk b || decide (b.toNat < 128)) (by decide +kernel) b
      rw [hb] at this
      simpa using this
    cases k with
    | step _ _ _ k =>
      rw [(Wrd.rn_ascii b L hb').2] at k
      exact ih k
  | note hn h ih =>
    intro k t ht
    rw [toks_note] at ht
    exact ih (k.drop (bd_note _ k hn)) t ht
  | tok h0 he h ih =>
    rename_i L ts
    intro k t ht
    have hk := lex_kind L he
    have hbd := bd_lex L k he
    unfold toks at ht
    rw [List.filter_cons_of_pos (by simp only [decide_eq_true_eq]; omega)] at ht
    rcases List.mem_cons.1 ht with rfl | ht
    · exact k.take hbd
    · exact ih (k.drop hbd) t ht
theorem tailS_ok : ∀ r : List (Int × List UInt8), (∀ t ∈ r, Ok t.2) → Ok (tailS r)
  | [], _ => .nil
  | t :: r, h => ok_ascii 32 _ (by decide) (by decide +kernel) ((h t (List.mem_cons_self ..)).app (tailS_ok r fun u hu => h u (List.mem_cons_of_mem _ hu)))
theorem spellS_ok (r : List (Int × List UInt8)) (h : ∀ t ∈ r, Ok t.2) : Ok (spellS r) := by
  cases r with
  | nil => exact .nil
  | cons t r => exact (h t (List.mem_cons_self ..)).app (tailS_ok r fun u hu => h u (List.mem_cons_of_mem _ hu))
end Go.Proofs.YtmgclgojmckfhaaGreatDoor.Lx
/-
  Plain facts: places rise along a string; the line in which a string ends is how many lines it has, and its column is the one behind its last line. No program is run here.
-/
namespace Go.Proofs.YtmgclgojmckfhaaGreatDoor.Plc
open Go.Lib Gly

/-- A later line, or no lesser column of the same one. -/
def le2 (x y : Int × Int) : Prop := x.1 < y.1 ∨ (x.1 = y.1 ∧ x.2 ≤ y.2)
theorem le2.refl (x : Int × Int) : le2 x x := Or.inr ⟨rfl, Int.le_refl _⟩
theorem le2.trans {x y z : Int × Int} (h : le2 x y) (k : le2 y z) : le2 x z := by
  unfold le2 at *
  omega
theorem adv_le2 (s : ByteArray) (n : Nat) (st : Int × Int) : le2 st (adv s n st) := by
  unfold adv le2 tabI
  repeat' split
  all_goals (try dsimp only)
  all_goals omega
theorem scan_ge (s : ByteArray) (b : Nat) : ∀ (f p : Nat) (st : Int × Int), le2 st (scan s b f p st) := by
  intro f
  induction f with
  | zero => intro p st; exact le2.refl _
  | succ f ih =>
    intro p st
    rw [scan]
    split
    · exact (adv_le2 s p st).trans (ih _ _)
    · exact le2.refl _
theorem scan_mono (s : ByteArray) (a b : Nat) (hab : a ≤ b) : ∀ (f p : Nat) (st : Int × Int), le2 (scan s a f p st) (scan s b f p st) := by
  intro f
  induction f with
  | zero => intro p st; exact le2.refl _
  | succ f ih =>
    intro p st
    by_cases h : p < s.size ∧ p + (Utf8.decode s p).2 ≤ a
    · rw [scan, if_pos h, scan, if_pos ⟨h.1, by omega⟩]
      exact ih _ _
    · rw [scan, if_neg h]
      exact scan_ge s b (f + 1) p st

theorem adv_line (s : ByteArray) (n : Nat) (l l' c : Int) : (adv s n (l, c)).1 - l = (adv s n (l', c)).1 - l' ∧ (adv s n (l, c)).2 = (adv s n (l', c)).2 := by
  unfold adv
  repeat' split
  all_goals (try dsimp only)
  all_goals exact ⟨by omega, rfl⟩
/-- The column does not hang on the line's number. -/
theorem scan_line (s : ByteArray) (a : Nat) : ∀ (f p : Nat) (l l' c : Int), (scan s a f p (l, c)).2 = (scan s a f p (l', c)).2 := by
  intro f
  induction f with
  | zero => intro p l l' c; rfl
  | succ f ih =>
    intro p l l' c
    rw [scan, scan]
    split
    · have h := (adv_line s p l l' c).2
      have h1 : adv s p (l, c) = ((adv s p (l, c)).1, (adv s p (l, c)).2) := rfl
      have h2 : adv s p (l', c) = ((adv s p (l', c)).1, (adv s p (l', c)).2) := rfl
      rw [h1, h2, h]
      exact ih _ _ _ _
    · rfl

end Go.Proofs.YtmgclgojmckfhaaGreatDoor.Plc
/-
  A text taken apart place by place, as a function: what stands first from a place on, item by item, up to an error or to the end; that it answers just what the rows' mathematics says, that the tokens of a text spelt anew are the same, and that two texts with a newline between have the tokens of both; where items stand. No program is run here.
-/
namespace Go.Proofs.YtmgclgojmckfhaaGreatDoor.Lx
open Go.Lib Gly
open Wrd (rn wd)
set_option linter.unusedSimpArgs false
set_option linter.unusedVariables false

/-! ### What is left of a text -/

def rest (s : ByteArray) (n : Nat) : List UInt8 := s.data.toList.drop n
theorem rest_len (s : ByteArray) (n : Nat) : (rest s n).length = s.size - n := by unfold rest; rw [List.length_drop, ← Lib.size_eq]
theorem rest_nil (s : ByteArray) (n : Nat) (h : s.size ≤ n) : rest s n = [] := List.eq_nil_of_length_eq_zero (by rw [rest_len]; omega)
theorem rest_ne (s : ByteArray) (n : Nat) (h : n < s.size) : rest s n ≠ [] := by
  intro e
  have := rest_len s n
  rw [e, List.length_nil] at this
  omega
theorem rest_drop (s : ByteArray) (n k : Nat) : (rest s n).drop k = rest s (n + k) := by unfold rest; rw [List.drop_drop]
theorem rest_zero (s : ByteArray) : rest s 0 = s.data.toList := rfl
theorem piece_rest (s : ByteArray) (n k : Nat) : (s.extract n (n + k)).data.toList = (rest s n).take k := by
  rw [Lib.extract_data, Nat.add_sub_cancel_left]
  rfl
theorem rn_rest (s : ByteArray) (n : Nat) : rn (rest s n) = (((Utf8.decode s n).1 : Nat) : Int) := by unfold Wrd.rn rest; rw [Lib.decodeL_drop]
theorem wd_rest (s : ByteArray) (n : Nat) : wd (rest s n) = (Utf8.decode s n).2 := by unfold Wrd.wd rest; rw [Lib.decodeL_drop]

/-! ### Blanks -/

theorem blk_ascii (b : UInt8) : (Not.blk b = true → b.toNat < 128) ∧ (b.toNat < 128 → Qt.blkP ((b.toNat : Nat) : Int) = Not.blk b) := by
  have := Not.byte_all (fun b => decide ((Not.blk b = true → b.toNat < 128) ∧ (b.toNat < 128 → Qt.blkP ((b.toNat : Nat) : Int) = Not.blk b))) (by decide +kernel) b
  exact of_decide_eq_true this
theorem blanks_step (b : UInt8) (L : List UInt8) (h : Not.blk b = true) : Wrd.run Qt.blkP (b :: L) = 1 + Wrd.run Qt.blkP L := by
  obtain ⟨h1, h2⟩ := blk_ascii b
  obtain ⟨e1, e2⟩ := Wrd.rn_ascii b L (h1 h)
  rw [Wrd.run_step Qt.blkP (b :: L) (by simp) (by rw [e1, h2 (h1 h)]; exact h), e2]
  rfl
/-- A row that no blank begins. -/
theorem blanks_none (L : List UInt8) (h : Qt.blkP (rn L) = false) : Wrd.run Qt.blkP L = 0 := Wrd.run_stop _ L (.inr h)
theorem lx_skip {ts : List (Int × List UInt8)} : ∀ (n : Nat) (L : List UInt8), L.length ≤ n → Lx (L.drop (Wrd.run Qt.blkP L)) ts → Lx L ts := by
  intro n
  induction n with
  | zero =>
    intro L hl h
    obtain rfl : L = [] := List.eq_nil_of_length_eq_zero (by omega)
    rw [Wrd.run_stop Qt.blkP [] (.inl rfl)] at h
    exact h
  | succ n ih =>
    intro L hl h
    cases L with
    | nil =>
      rw [Wrd.run_stop Qt.blkP [] (.inl rfl)] at h
      exact h
    | cons b t =>
      cases hp : Qt.blkP (rn (b :: t)) with
      | false =>
        rw [blanks_none _ hp] at h
        exact h
      | true =>
        obtain ⟨e1, e2⟩ := Qt.blk_head (b :: t) hp (by simp)
        have hlt : b.toNat < 128 := by
          rcases Qt.blk_small _ hp with z | z
          all_goals (rw [← e1] at z; have : Qt.hd (b :: t) = b.toNat := rfl; omega)
        have hb : Not.blk b = true := by
          rw [← (blk_ascii b).2 hlt, ← (Wrd.rn_ascii b t hlt).1]
          exact hp
        rw [blanks_step b t hb, Nat.add_comm, List.drop_succ_cons] at h
        exact .blank hb (ih t (by rw [List.length_cons] at hl; omega) h)
theorem class_blk (c : Int) (h : classI c ≠ 1) : Qt.blkP c = false := by
  unfold Qt.blkP
  exact beq_eq_false_iff_ne.2 h
/-- No comment begins with a blank. -/
theorem note_nb (L : List UInt8) (h : (Not.scanN L).1 ≠ 0 ∨ (Not.scanN L).2 ≠ 0) : Qt.blkP (rn L) = false := by
  have opened : ∀ r, Qt.blkP (rn (123 :: 45 :: r)) = false := fun r => by
    rw [(Wrd.rn_ascii 123 (45 :: r) (by decide)).1]
    decide +kernel
  rcases note_cases L with ⟨h1, -, e⟩ | ⟨h1, -, e⟩ | ⟨-, -, h3, e⟩ | ⟨-, -, e⟩
  · obtain ⟨r, rfl⟩ := Not.opn_split L h1
    exact opened r
  · obtain ⟨r, rfl⟩ := Not.opn_split L h1
    exact opened r
  · cases hs : Not.symP (rn L) with
    | false =>
      rw [Wrd.run_stop Not.symP L (.inr hs)] at h3
      omega
    | true =>
      unfold Not.symP at hs
      exact class_blk _ (by rw [beq_iff_eq.1 hs]; decide)
  · rw [e] at h
    rcases h with h | h <;> exact absurd rfl h
/-- No lexeme begins with a blank. -/
theorem lex_nb (L : List UInt8) (h : (lexL L).2.2 = 0) : Qt.blkP (rn L) = false := by
  have hne := lex_ne L h
  rcases lex_cases L h with ⟨h1, e⟩ | ⟨h1, h2, h3, e⟩ | ⟨h1, h2, h3, e⟩
  · have q := num_head L h1
    cases L with
    | nil => exact absurd rfl hne
    | cons x t =>
      have q' : 48 ≤ x.toNat ∧ x.toNat ≤ 57 := q
      rw [(Wrd.rn_ascii x t (by omega)).1]
      exact class_blk _ (by rw [(byte_class x).1 q']; decide)
  · have q := Qt.quoted_is L h2
    cases L with
    | nil => exact absurd rfl hne
    | cons x t =>
      have q' : x.toNat = 34 ∨ x.toNat = 39 := q
      rw [(Wrd.rn_ascii x t (by omega)).1]
      exact class_blk _ (by rw [(byte_class x).2.1 q']; decide)
  · exact class_blk _ (by have := (word_head L h3).2.2.2.1; omega)

/-! ### Items, place by place -/

/-- A token (its kind) or a comment (-1), and where it stands. -/
structure It where
  kind : Int
  fr : Nat
  to : Nat
/-- What stands at a place: nothing any more; what is wrong, and where; an item. -/
inductive St where
  | fin
  | bad (e : Int) (p : Nat)
  | item (t : It)
def skp (s : ByteArray) (i : Nat) : Nat := i + Wrd.run Qt.blkP (rest s i)
def nxt (s : ByteArray) (j : Nat) : St :=
  if s.size ≤ j then .fin
  else if (Not.scanN (rest s j)).2 ≠ 0 then .bad 60 j
  else if (Not.scanN (rest s j)).1 ≠ 0 then .item ⟨-1, j, j + (Not.scanN (rest s j)).1⟩
  else if (lexL (rest s j)).2.2 ≠ 0 then .bad (lexL (rest s j)).2.2 (j + (lexL (rest s j)).2.1)
  else .item ⟨(lexL (rest s j)).1, j, j + (lexL (rest s j)).2.1⟩
/-- The items from a place on, what is wrong (0: nothing), and where. -/
def goS (s : ByteArray) : Nat → Nat → List It × Int × Nat
  | 0, _ => ([], 0, 0)
  | f + 1, i =>
    match nxt s (skp s i) with
    | .fin => ([], 0, 0)
    | .bad e p => ([], e, p)
    | .item t => (t :: (goS s f t.to).1, (goS s f t.to).2)
def lexS (s : ByteArray) : List It × Int × Nat := goS s (s.size + 1) 0

theorem skp_le (s : ByteArray) (i : Nat) (h : i ≤ s.size) : skp s i ≤ s.size := by
  have := Wrd.run_le Qt.blkP _ (rest s i) (Nat.le_refl _)
  rw [rest_len] at this
  unfold skp
  omega
theorem skp_ge (s : ByteArray) (i : Nat) : i ≤ skp s i := by unfold skp; omega
/-- What stands at a place, way by way. -/
theorem nxt_cases (s : ByteArray) (j : Nat) :
    (s.size ≤ j ∧ nxt s j = .fin) ∨
    (j < s.size ∧ (Not.scanN (rest s j)).2 ≠ 0 ∧ (Not.scanN (rest s j)).2 = 60 ∧ (Not.scanN (rest s j)).1 = 0 ∧ nxt s j = .bad 60 j) ∨
    (j < s.size ∧ (Not.scanN (rest s j)).2 = 0 ∧ (Not.scanN (rest s j)).1 ≠ 0 ∧ nxt s j = .item ⟨-1, j, j + (Not.scanN (rest s j)).1⟩) ∨
    (j < s.size ∧ Not.scanN (rest s j) = (0, 0) ∧ (lexL (rest s j)).2.2 ≠ 0 ∧ nxt s j = .bad (lexL (rest s j)).2.2 (j + (lexL (rest s j)).2.1)) ∨
    (j < s.size ∧ Not.scanN (rest s j) = (0, 0) ∧ (lexL (rest s j)).2.2 = 0 ∧ nxt s j = .item ⟨(lexL (rest s j)).1, j, j + (lexL (rest s j)).2.1⟩) := by
  unfold nxt
  by_cases h0 : s.size ≤ j
  · exact .inl ⟨h0, if_pos h0⟩
  rw [if_neg h0]
  have h0' : j < s.size := by omega
  have hc := note_cases (rest s j)
  by_cases h1 : (Not.scanN (rest s j)).2 ≠ 0
  · rw [if_pos h1]
    refine .inr (.inl ⟨h0', h1, ?_, ?_, rfl⟩)
    all_goals
      rcases hc with ⟨-, -, e⟩ | ⟨-, -, e⟩ | ⟨-, -, -, e⟩ | ⟨-, -, e⟩
      all_goals (rw [e] at h1 ⊢)
      all_goals (first | rfl | exact absurd rfl h1)
  rw [if_neg h1]
  by_cases h2 : (Not.scanN (rest s j)).1 ≠ 0
  · rw [if_pos h2]
    exact .inr (.inr (.inl ⟨h0', by omega, h2, rfl⟩))
  rw [if_neg h2]
  have e0 : Not.scanN (rest s j) = (0, 0) := Prod.ext (by dsimp only; omega) (by dsimp only; omega)
  by_cases h3 : (lexL (rest s j)).2.2 ≠ 0
  · rw [if_pos h3]
    exact .inr (.inr (.inr (.inl ⟨h0', e0, h3, rfl⟩)))
  · rw [if_neg h3]
    exact .inr (.inr (.inr (.inr ⟨h0', e0, by omega, rfl⟩)))
/-- What an item is. -/
theorem nxt_item {s : ByteArray} {j : Nat} {t : It} (h : nxt s j = .item t) : j < s.size ∧ t.fr = j ∧ j < t.to ∧ t.to ≤ s.size ∧ Qt.blkP (rn (rest s j)) = false ∧
    ((t.kind = -1 ∧ (Not.scanN (rest s j)).1 ≠ 0 ∧ t.to = j + (Not.scanN (rest s j)).1) ∨ (1 ≤ t.kind ∧ t.kind ≤ 15 ∧ Not.scanN (rest s j) = (0, 0) ∧ (lexL (rest s j)).2.2 = 0 ∧ t.kind = (lexL (rest s j)).1 ∧ t.to = j + (lexL (rest s j)).2.1)) := by
  rcases nxt_cases s j with ⟨-, e⟩ | ⟨-, -, -, -, e⟩ | ⟨h0, h1, h2, e⟩ | ⟨-, -, -, e⟩ | ⟨h0, h1, h2, e⟩
  · rw [e] at h
    cases h
  · rw [e] at h
    cases h
  · rw [e] at h
    injection h with h
    subst h
    have hl := Not.scanN_le (rest s j)
    rw [rest_len] at hl
    exact ⟨h0, rfl, by dsimp only; omega, by dsimp only; omega, note_nb _ (.inl h2), .inl ⟨rfl, h2, rfl⟩⟩
  · rw [e] at h
    cases h
  · rw [e] at h
    injection h with h
    subst h
    have hk := lex_kind _ h2
    rw [rest_len] at hk
    exact ⟨h0, rfl, by dsimp only; omega, by dsimp only; omega, lex_nb _ h2, .inr ⟨hk.1, hk.2.1, h1, h2, rfl, rfl⟩⟩

/-! ### What has been found so far -/

/-- What has been found up to a place. -/
inductive At (s : ByteArray) : Nat → List It → Prop
  | start : At s 0 []
  | more {i : Nat} {acc : List It} {t : It} (h : At s i acc) (hn : nxt s (skp s i) = .item t) : At s t.to (acc ++ [t])
theorem At.le {s : ByteArray} {i : Nat} {acc : List It} (h : At s i acc) : i ≤ s.size := by
  cases h with
  | start => exact Nat.zero_le _
  | more h hn => exact (nxt_item hn).2.2.2.1
theorem At.reach {s : ByteArray} {i : Nat} {acc : List It} (h : At s i acc) : ∃ f, s.size + 1 ≤ i + f ∧ lexS s = (acc ++ (goS s f i).1, (goS s f i).2) := by
  induction h with
  | start => exact ⟨s.size + 1, by omega, rfl⟩
  | more h hn ih =>
    rename_i i acc t
    obtain ⟨f, hf, e⟩ := ih
    have hi := h.le
    have ht := nxt_item hn
    have hg := skp_ge s i
    obtain ⟨g, rfl⟩ : ∃ g, f = g + 1 := ⟨f - 1, by omega⟩
    refine ⟨g, by omega, ?_⟩
    rw [e, goS, hn]
    simp
theorem At.count {s : ByteArray} {i : Nat} {acc : List It} (h : At s i acc) : acc.length ≤ i := by
  induction h with
  | start => exact Nat.le_refl _
  | more h hn ih =>
    rename_i i acc t
    have ht := nxt_item hn
    have hg := skp_ge s i
    rw [List.length_append, List.length_singleton]
    omega
theorem At.fin {s : ByteArray} {i : Nat} {acc : List It} (h : At s i acc) (hn : nxt s (skp s i) = .fin) : lexS s = (acc, 0, 0) := by
  obtain ⟨f, hf, e⟩ := h.reach
  have hi := h.le
  obtain ⟨g, rfl⟩ : ∃ g, f = g + 1 := ⟨f - 1, by omega⟩
  rw [e, goS, hn]
  simp
theorem At.bad {s : ByteArray} {i : Nat} {acc : List It} (h : At s i acc) {x : Int} {p : Nat} (hn : nxt s (skp s i) = .bad x p) : lexS s = (acc, x, p) := by
  obtain ⟨f, hf, e⟩ := h.reach
  have hi := h.le
  obtain ⟨g, rfl⟩ : ∃ g, f = g + 1 := ⟨f - 1, by omega⟩
  rw [e, goS, hn]
  simp
/-- All items of a text that is right are found so. -/
theorem at_all (s : ByteArray) : ∀ (f i : Nat) (acc : List It), At s i acc → s.size + 1 ≤ i + f → ∃ j, At s j (acc ++ (goS s f i).1)
  | 0, i, acc, h, hf => absurd h.le (by omega)
  | f + 1, i, acc, h, hf => by
    rw [goS]
    cases hn : nxt s (skp s i) with
    | fin => exact ⟨i, by simpa using h⟩
    | bad e p => exact ⟨i, by simpa using h⟩
    | item t =>
      have ht := nxt_item hn
      have hg := skp_ge s i
      obtain ⟨j, hj⟩ := at_all s f t.to _ (h.more hn) (by omega)
      exact ⟨j, by simpa using hj⟩
theorem at_lexS (s : ByteArray) : ∃ j, At s j (lexS s).1 := by
  have := at_all s (s.size + 1) 0 [] .start (by omega)
  exact this

/-! ### Items and rows -/

/-- An item's kind and its bytes. -/
def itm (s : ByteArray) (t : It) : Int × List UInt8 := (t.kind, (s.extract t.fr t.to).data.toList)
theorem itm_rest (s : ByteArray) (t : It) (k : Nat) (h : t.to = t.fr + k) : itm s t = (t.kind, (rest s t.fr).take k) := by
  unfold itm
  rw [h, piece_rest]
theorem goS_lx (s : ByteArray) : ∀ (f i : Nat), i ≤ s.size → s.size + 1 ≤ i + f → (goS s f i).2.1 = 0 → Lx (rest s i) ((goS s f i).1.map (itm s))
  | 0, i, hi, hf, _ => absurd hf (by omega)
  | f + 1, i, hi, hf, h => by
    refine lx_skip _ _ (Nat.le_refl _) ?_
    rw [rest_drop, show i + Wrd.run Qt.blkP (rest s i) = skp s i from rfl]
    have hg := skp_ge s i
    rw [goS] at h ⊢
    rcases nxt_cases s (skp s i) with ⟨h0, e⟩ | ⟨-, -, -, -, e⟩ | ⟨h0, h1, h2, e⟩ | ⟨-, -, h1, e⟩ | ⟨h0, h1, h2, e⟩
    · rw [e, rest_nil s _ h0]
      exact .nil
    · rw [e] at h
      exact absurd (show (60 : Int) = 0 from h) (by decide)
    · rw [e] at h ⊢
      have ht := nxt_item e
      dsimp only at ht h ⊢
      rw [List.map_cons, itm_rest s _ (Not.scanN (rest s (skp s i))).1 rfl]
      refine .note h2 ?_
      rw [rest_drop]
      exact goS_lx s f _ ht.2.2.2.1 (by omega) h
    · rw [e] at h
      exact absurd h h1
    · rw [e] at h ⊢
      have ht := nxt_item e
      dsimp only at ht h ⊢
      rw [List.map_cons, itm_rest s _ (lexL (rest s (skp s i))).2.1 rfl]
      refine .tok h1 h2 ?_
      rw [rest_drop]
      exact goS_lx s f _ ht.2.2.2.1 (by omega) h
theorem lx_goS (s : ByteArray) {L : List UInt8} {ts : List (Int × List UInt8)} (h : Lx L ts) : ∀ (i f : Nat), L = rest s i → i ≤ s.size → s.size + 1 ≤ i + f → (goS s f i).2.1 = 0 ∧ (goS s f i).1.map (itm s) = ts := by
  induction h with
  | nil =>
    intro i f hL hi hf
    obtain ⟨f, rfl⟩ : ∃ g, f = g + 1 := ⟨f - 1, by omega⟩
    have h0 : s.size ≤ i := by
      have := rest_len s i
      rw [← hL, List.length_nil] at this
      omega
    have hg := skp_ge s i
    rw [goS]
    rcases nxt_cases s (skp s i) with ⟨-, e⟩ | ⟨q, -⟩ | ⟨q, -⟩ | ⟨q, -⟩ | ⟨q, -⟩
    · rw [e]
      exact ⟨rfl, rfl⟩
    all_goals omega
  | blank hb h ih =>
    rename_i b L ts
    intro i f hL hi hf
    have h0 : i < s.size := by
      have := rest_len s i
      rw [← hL, List.length_cons] at this
      omega
    have hL2 : L = rest s (i + 1) := by
      rw [← rest_drop, ← hL]
      rfl
    have hsk : skp s i = skp s (i + 1) := by
      unfold skp
      rw [← hL, blanks_step b L hb, ← hL2]
      omega
    obtain ⟨f, rfl⟩ : ∃ g, f = g + 1 := ⟨f - 1, by omega⟩
    have := ih (i + 1) (f + 1) hL2 (by omega) (by omega)
    rw [goS] at this ⊢
    rw [hsk]
    exact this
  | note hn h ih =>
    rename_i L ts
    intro i f hL hi hf
    subst hL
    obtain ⟨f, rfl⟩ : ∃ g, f = g + 1 := ⟨f - 1, by omega⟩
    have hsk : skp s i = i := by
      unfold skp
      rw [blanks_none _ (note_nb _ (.inl hn))]
      rfl
    rw [goS, hsk]
    rcases nxt_cases s i with ⟨q, -⟩ | ⟨-, -, -, q, -⟩ | ⟨h0, h1, h2, e⟩ | ⟨-, q, -⟩ | ⟨-, q, -⟩
    · rw [rest_nil s i q] at hn
      exact absurd rfl hn
    · exact absurd q hn
    · rw [e]
      have ht := nxt_item e
      dsimp only at ht ⊢
      obtain ⟨a, b⟩ := ih (i + (Not.scanN (rest s i)).1) f (rest_drop s i _) ht.2.2.2.1 (by omega)
      exact ⟨a, by rw [List.map_cons, itm_rest s _ (Not.scanN (rest s i)).1 rfl, b]⟩
    · rw [q] at hn
      exact absurd rfl hn
    · rw [q] at hn
      exact absurd rfl hn
  | tok h0 he h ih =>
    rename_i L ts
    intro i f hL hi hf
    subst hL
    obtain ⟨f, rfl⟩ : ∃ g, f = g + 1 := ⟨f - 1, by omega⟩
    have hsk : skp s i = i := by
      unfold skp
      rw [blanks_none _ (lex_nb _ he)]
      rfl
    rw [goS, hsk]
    rcases nxt_cases s i with ⟨q, -⟩ | ⟨-, q, -⟩ | ⟨-, -, q, -⟩ | ⟨-, -, q, -⟩ | ⟨-, -, -, e⟩
    · exact absurd (rest_nil s i q) (lex_ne _ he)
    · rw [h0] at q
      exact absurd rfl q
    · rw [h0] at q
      exact absurd rfl q
    · exact absurd he q
    · rw [e]
      have ht := nxt_item e
      dsimp only at ht ⊢
      obtain ⟨a, b⟩ := ih (i + (lexL (rest s i)).2.1) f (rest_drop s i _) ht.2.2.2.1 (by omega)
      exact ⟨a, by rw [List.map_cons, itm_rest s _ (lexL (rest s i)).2.1 rfl, b]⟩
theorem lexS_lx (s : ByteArray) (h : (lexS s).2.1 = 0) : Lx s.data.toList ((lexS s).1.map (itm s)) := goS_lx s _ 0 (Nat.zero_le _) (by omega) h
theorem lx_lexS (s : ByteArray) {ts : List (Int × List UInt8)} (h : Lx s.data.toList ts) : (lexS s).2.1 = 0 ∧ (lexS s).1.map (itm s) = ts := lx_goS s h 0 (s.size + 1) rfl (Nat.zero_le _) (by omega)
/-- The tokens of a text, their kinds and bytes. -/
def tokS (s : ByteArray) : List (Int × List UInt8) := toks ((lexS s).1.map (itm s))
/-! ### Places rise -/

/-- Items stand one behind another. -/
inductive Row : Nat → List It → Prop
  | nil (i : Nat) : Row i []
  | cons {i : Nat} {t : It} {r : List It} (h1 : i ≤ t.fr) (h2 : t.fr < t.to) (h : Row t.to r) : Row i (t :: r)
/-- In a text of runes items begin and end between runes, none with a newline. -/
def Fair (s : ByteArray) (t : It) : Prop := Bd (rest s 0) t.fr ∧ t.fr < s.size ∧ Qt.blkP (rn (rest s t.fr)) = false ∧ t.fr + wd (rest s t.fr) ≤ t.to ∧ t.to ≤ s.size ∧ Bd (rest s 0) t.to
theorem at_fair {s : ByteArray} (hs : Ok (rest s 0)) {i : Nat} {acc : List It} (h : At s i acc) : Bd (rest s 0) i ∧ ∀ t ∈ acc, Fair s t := by
  induction h with
  | start => exact ⟨.zero _, fun t ht => by simp at ht⟩
  | more h hn ih =>
    rename_i i acc t
    obtain ⟨ih1, ih2⟩ := ih
    obtain ⟨h1, h2, h3, h4, h5, h6⟩ := nxt_item hn
    have hb : Bd (rest s 0) (skp s i) := by
      refine ih1.add ?_
      rw [rest_drop, Nat.zero_add]
      exact bd_run _ _ _ (Nat.le_refl _)
    have hok : Ok (rest s (skp s i)) := by
      have := hs.drop hb
      rw [rest_drop, Nat.zero_add] at this
      exact this
    have hne := rest_ne s _ h1
    have hin : ∃ n, t.to = skp s i + n ∧ Bd (rest s (skp s i)) n := by
      rcases h6 with ⟨-, a, b⟩ | ⟨-, -, -, a, -, b⟩
      · exact ⟨_, b, bd_note _ hok a⟩
      · exact ⟨_, b, bd_lex _ hok a⟩
    obtain ⟨n, e, hbn⟩ := hin
    have hto : Bd (rest s 0) t.to := by
      rw [e]
      refine hb.add ?_
      rw [rest_drop, Nat.zero_add]
      exact hbn
    refine ⟨hto, fun u hu => ?_⟩
    rcases List.mem_append.1 hu with hu | hu
    · exact ih2 u hu
    · obtain rfl := List.mem_singleton.1 hu
      refine ⟨by rw [h2]; exact hb, by omega, by rw [h2]; exact h5, ?_, h4, hto⟩
      rw [h2, e]
      cases hbn with
      | zero => omega
      | step _ h => omega
theorem scan_at (s : ByteArray) : ∀ {L : List UInt8} {n : Nat}, Bd L n → ∀ (p a f : Nat) (st : Int × Int), L = rest s p → p + n ≤ a → a ≤ s.size → s.size ≤ p + f → Plc.scan s a f p st = Plc.scan s a s.size (p + n) (Plc.scan s (p + n) f p st) := by
  intro L n h
  induction h with
  | zero L =>
    intro p a f st hL hpa ha hf
    have h0 : Plc.scan s (p + 0) f p st = st := Plc.scan_stop s _ f p st (by have := width_ge s p; omega)
    rw [h0, Nat.add_zero, Plc.scan_fuel s a f s.size p st hf (by omega)]
  | step hne h ih =>
    rename_i L n
    intro p a f st hL hpa ha hf
    have hp : p < s.size := by
      rcases Nat.lt_or_ge p s.size with q | q
      · exact q
      · exact absurd (by rw [hL]; exact rest_nil s p q) hne
    have hw : wd L = (Utf8.decode s p).2 := by rw [hL]; exact wd_rest s p
    have hw1 := width_ge s p
    rw [Plc.scan_go s a f p st ⟨hp, by omega⟩ hf, Plc.scan_go s (p + (wd L + n)) f p st ⟨hp, by omega⟩ hf]
    have := ih (p + (Utf8.decode s p).2) a (f - 1) (Plc.adv s p st) (by rw [hL, rest_drop, ← hL, hw]) (by omega) ha (by omega)
    rw [show p + (Utf8.decode s p).2 + n = p + (wd L + n) by omega] at this
    exact this
/-- Lesser by line, or by column in one line. -/
def lt2 (x y : Int × Int) : Prop := x.1 < y.1 ∨ (x.1 = y.1 ∧ x.2 < y.2)
theorem lt2.le {x y z : Int × Int} (h : lt2 x y) (k : Plc.le2 y z) : lt2 x z := by
  unfold lt2 Plc.le2 at *
  omega
end Go.Proofs.YtmgclgojmckfhaaGreatDoor.Lx
/-
  The first byte of a text that begins no encoding, as a function. No condition.
-/
namespace Go.Proofs.YtmgclgojmckfhaaGreatDoor.Gly
set_option linter.unusedSimpArgs false

/-- Does no encoding begin at n? -/
def badAt (s : ByteArray) (n : Nat) : Bool := (Utf8.decode s n).1 == 65533 && (Utf8.decode s n).2 == 1
/-- The first byte from n on that begins no encoding, rune by rune; the length if there is none. f: more rounds than there are bytes. -/
def firstBad (s : ByteArray) : Nat → Nat → Nat
  | 0, _ => s.size
  | f + 1, n => if n < s.size then (if badAt s n = true then n else firstBad s f (n + (Utf8.decode s n).2)) else s.size
theorem firstBad_end (s : ByteArray) (f n : Nat) (h : ¬ n < s.size) : firstBad s f n = s.size := by
  cases f with
  | zero => rfl
  | succ f => simp [firstBad, h]
theorem firstBad_le (s : ByteArray) : ∀ (f n : Nat), firstBad s f n ≤ s.size
  | 0, _ => Nat.le_refl _
  | f + 1, n => by
    unfold firstBad
    split
    · split
      · omega
      · exact firstBad_le s f _
    · omega
/-- Check's answers. -/
def checkN (s : ByteArray) : Nat := firstBad s s.size 0
def checkE (s : ByteArray) : Int := if checkN s < s.size then 10 else 0

end Go.Proofs.YtmgclgojmckfhaaGreatDoor.Gly
/-
  A text's tokens and comments with their places, gaps and where they stand, as a fold over its items; what is wrong with a text's runes; that places and gaps rise. No program is run here.
-/
namespace Go.Proofs.YtmgclgojmckfhaaGreatDoor.Lx
open Go.Lib Gly
open Wrd (rn wd)
set_option linter.unusedSimpArgs false
set_option linter.unusedVariables false

/-! ### What is wrong with a text's runes -/

/-- The first byte from n on where a rune of no class stands; the length if there is none. f: more rounds than there are bytes. -/
def firstNo (s : ByteArray) : Nat → Nat → Nat
  | 0, _ => s.size
  | f + 1, n => if n < s.size then (if classI (((Utf8.decode s n).1 : Nat) : Int) = 0 then n else firstNo s f (n + (Utf8.decode s n).2)) else s.size
theorem firstNo_end (s : ByteArray) (f n : Nat) (h : ¬ n < s.size) : firstNo s f n = s.size := by
  cases f with
  | zero => rfl
  | succ f => simp [firstNo, h]
theorem firstNo_le (s : ByteArray) : ∀ (f n : Nat), firstNo s f n ≤ s.size
  | 0, _ => Nat.le_refl _
  | f + 1, n => by
    unfold firstNo
    split
    · split
      · omega
      · exact firstNo_le s f _
    · omega
theorem firstNo_stop (s : ByteArray) (f n : Nat) (h : n < s.size) (hf : s.size ≤ n + f) (hc : classI (((Utf8.decode s n).1 : Nat) : Int) = 0) : firstNo s f n = n := by
  cases f with
  | zero => omega
  | succ f => rw [firstNo, if_pos h, if_pos hc]
theorem firstNo_go (s : ByteArray) (f n : Nat) (h : n < s.size) (hf : s.size ≤ n + f) (hc : classI (((Utf8.decode s n).1 : Nat) : Int) ≠ 0) : firstNo s f n = firstNo s (f - 1) (n + (Utf8.decode s n).2) := by
  cases f with
  | zero => omega
  | succ f => rw [firstNo, if_pos h, if_neg hc]; rfl
def noN (s : ByteArray) : Nat := firstNo s s.size 0
/-- What is wrong with a text's size and runes (0: nothing), and where. -/
def runesE (s : ByteArray) : Int := if 16777216 < s.size then 3 else if checkN s < s.size then 10 else if noN s < s.size then 70 else 0
def runesN (s : ByteArray) : Nat := if 16777216 < s.size then 0 else if checkN s < s.size then checkN s else if noN s < s.size then noN s else 0
theorem badAt_rest (s : ByteArray) (n : Nat) : badAt s n = true ↔ decodeL (rest s n) = (65533, 1) := by
  unfold badAt rest
  rw [Lib.decodeL_drop, Bool.and_eq_true, beq_iff_eq, beq_iff_eq]
  constructor
  · rintro ⟨a, b⟩
    exact Prod.ext a b
  · intro h
    rw [h]
    exact ⟨rfl, rfl⟩
theorem ok_of (s : ByteArray) : ∀ (f g n : Nat), n ≤ s.size → s.size ≤ n + f → s.size ≤ n + g → firstBad s f n = s.size → firstNo s g n = s.size → Ok (rest s n)
  | 0, g, n, hn, hf, _, _, _ => by
    rw [rest_nil s n (by omega)]
    exact .nil
  | f + 1, 0, n, hn, _, hg, _, _ => by
    rw [rest_nil s n (by omega)]
    exact .nil
  | f + 1, g + 1, n, hn, hf, hg, h1, h2 => by
    by_cases hp : n < s.size
    · have hw := width_ge s n
      have hx := width_fits s n hp
      rw [firstBad, if_pos hp] at h1
      rw [firstNo, if_pos hp] at h2
      split at h1
      · omega
      rename_i hb
      split at h2
      · omega
      rename_i hc
      refine .step (rest_ne s n hp) (fun e => hb ((badAt_rest s n).2 e)) (by rw [rn_rest]; exact hc) ?_
      rw [wd_rest, rest_drop]
      exact ok_of s f g _ hx (by omega) (by omega) h1 h2
    · rw [rest_nil s n (by omega)]
      exact .nil
theorem of_ok (s : ByteArray) {L : List UInt8} (h : Ok L) : ∀ (f g n : Nat), L = rest s n → n ≤ s.size → s.size ≤ n + f → s.size ≤ n + g → firstBad s f n = s.size ∧ firstNo s g n = s.size := by
  induction h with
  | nil =>
    intro f g n hL hn _ _
    have := rest_len s n
    rw [← hL, List.length_nil] at this
    exact ⟨firstBad_end s f n (by omega), firstNo_end s g n (by omega)⟩
  | step hne hg hc h ih =>
    rename_i L
    intro f g n hL hn hf hgg
    have hp : n < s.size := by
      rcases Nat.lt_or_ge n s.size with q | q
      · exact q
      · exact absurd (by rw [hL]; exact rest_nil s n q) hne
    have hw := width_ge s n
    have hx := width_fits s n hp
    obtain ⟨f, rfl⟩ : ∃ k, f = k + 1 := ⟨f - 1, by omega⟩
    obtain ⟨g, rfl⟩ : ∃ k, g = k + 1 := ⟨g - 1, by omega⟩
    have hwd : wd L = (Utf8.decode s n).2 := by rw [hL]; exact wd_rest s n
    obtain ⟨a, b⟩ := ih f g (n + (Utf8.decode s n).2) (by rw [hwd, hL, rest_drop]) hx (by omega) (by omega)
    refine ⟨?_, ?_⟩
    · rw [firstBad, if_pos hp, if_neg, a]
      intro z
      rw [badAt_rest, ← hL] at z
      exact hg z
    · rw [firstNo, if_pos hp, if_neg, b]
      rw [← rn_rest, ← hL]
      exact hc
theorem runes_ok (s : ByteArray) (h : runesE s = 0) : Ok s.data.toList ∧ s.size ≤ 16777216 := by
  unfold runesE at h
  have h1 : checkN s ≤ s.size := firstBad_le s _ _
  have h2 := firstNo_le s s.size 0
  by_cases z : 16777216 < s.size
  · rw [if_pos z] at h
    omega
  rw [if_neg z] at h
  by_cases z2 : checkN s < s.size
  · rw [if_pos z2] at h
    omega
  rw [if_neg z2] at h
  by_cases z3 : noN s < s.size
  · rw [if_pos z3] at h
    omega
  unfold noN at z3
  exact ⟨ok_of s s.size s.size 0 (Nat.zero_le _) (by omega) (by omega) (show checkN s = s.size by omega) (by omega), by omega⟩
theorem ok_runes (s : ByteArray) (h : Ok s.data.toList) (hs : s.size ≤ 16777216) : runesE s = 0 ∧ runesN s = 0 := by
  obtain ⟨a, b⟩ := of_ok s h s.size s.size 0 rfl (Nat.zero_le _) (by omega) (by omega)
  have a' : checkN s = s.size := a
  have b' : noN s = s.size := b
  unfold runesE runesN
  rw [if_neg (by omega), if_neg (by omega), if_neg (by omega), if_neg (by omega), if_neg (by omega), if_neg (by omega)]
  exact ⟨rfl, rfl⟩
/-- What is wrong with a text, and where; its items if nothing is. -/
def errS (s : ByteArray) : Int := if runesE s ≠ 0 then runesE s else (lexS s).2.1
def posS (s : ByteArray) : Nat := if runesE s ≠ 0 then runesN s else (lexS s).2.2
def itemsS (s : ByteArray) : List It := if errS s = 0 then (lexS s).1 else []
theorem err_ok (s : ByteArray) (h : errS s = 0) : runesE s = 0 ∧ (lexS s).2.1 = 0 ∧ itemsS s = (lexS s).1 := by
  have h0 := h
  unfold errS at h
  by_cases z : runesE s ≠ 0
  · rw [if_pos z] at h
    exact absurd h z
  · rw [if_neg z] at h
    exact ⟨by omega, h, by unfold itemsS; rw [if_pos h0]⟩

/-! ### Tokens and comments with their places -/

def lineS (s : ByteArray) (n : Nat) : Int := (Plc.spot s 1 n).1
def colS (s : ByteArray) (n : Nat) : Int := (Plc.spot s 1 n).2
/-- An item's text. -/
def txt (s : ByteArray) (t : It) : ByteArray := s.extract t.fr t.to
/-- Does a token count for gaps? -/
def counts (s : ByteArray) (t : It) : Bool := !(t.kind == 15 && ((txt s t).data.toList == [123] || (txt s t).data.toList == [125] || (txt s t).data.toList == [59]))
/-- A comment with its gap, and where it stands. -/
structure Nt where
  it : It
  gap : Nat
  pl : Int
/-- What is known of the tokens that count, of where what stands ahead ends, whether it may be joined, whether the last comment still waits. -/
structure Acc where
  gap : Nat
  ends : Int
  joins : Bool
  wait : Bool
  notes : List Nt
def acc0 : Acc := ⟨0, 0, false, false, []⟩
/-- The last comment's place told. -/
def setLast (x : Int) : List Nt → List Nt
  | [] => []
  | [n] => [{ n with pl := x }]
  | n :: m :: r => n :: setLast x (m :: r)
def settle (A : Acc) (same : Bool) : Acc := if A.wait = true then ⟨A.gap, A.ends, same, false, setLast (if same = true then 1 else 2) A.notes⟩ else A
def addNote (s : ByteArray) (A : Acc) (t : It) : Acc :=
  ⟨A.gap, lineS s t.to, A.joins && (A.ends == lineS s t.fr) && (lineS s t.to == lineS s t.fr), A.joins && (A.ends == lineS s t.fr) && (lineS s t.to == lineS s t.fr), A.notes ++ [⟨t, A.gap, 3⟩]⟩
def addTok (s : ByteArray) (A : Acc) (t : It) : Acc := ⟨if counts s t = true then A.gap + 1 else A.gap, lineS s t.to, true, A.wait, A.notes⟩
def isNote (t : It) : Bool := decide (t.kind < 0)
def stepA (s : ByteArray) (A : Acc) (t : It) : Acc :=
  if isNote t = true then addNote s (settle A (lineS s t.fr == A.ends)) t else addTok s (settle A (lineS s t.fr == A.ends)) t
def accS (s : ByteArray) (l : List It) : Acc := l.foldl (stepA s) acc0
/-- The comments of items, all told. -/
def notesL (s : ByteArray) (l : List It) : List Nt := (settle (accS s l) false).notes
def toksL (l : List It) : List It := l.filter fun t => !isNote t
theorem accS_add (s : ByteArray) (l : List It) (t : It) : accS s (l ++ [t]) = stepA s (accS s l) t := by
  unfold accS
  rw [List.foldl_append]
  rfl
theorem toksL_add (l : List It) (t : It) : toksL (l ++ [t]) = if isNote t = true then toksL l else toksL l ++ [t] := by
  unfold toksL
  rw [List.filter_append]
  cases h : isNote t <;> simp [h]
theorem toks_map (s : ByteArray) (l : List It) : toks (l.map (itm s)) = (toksL l).map (itm s) := by
  unfold toks toksL
  rw [List.filter_map]
  congr 1
  refine List.filter_congr fun t _ => ?_
  show decide (0 ≤ t.kind) = !(decide (t.kind < 0))
  by_cases h : t.kind < 0
  · rw [decide_eq_true h, decide_eq_false (by omega)]
    rfl
  · rw [decide_eq_false h, decide_eq_true (by omega)]
    rfl
theorem setLast_app (x : Int) (n : Nt) : ∀ l : List Nt, setLast x (l ++ [n]) = l ++ [{ n with pl := x }]
  | [] => rfl
  | [m] => rfl
  | m :: k :: r => by
    have := setLast_app x n (k :: r)
    rw [List.cons_append, List.cons_append, setLast, ← List.cons_append, this]
    rfl
theorem setLast_it (x : Int) : ∀ l : List Nt, (setLast x l).map Nt.it = l.map Nt.it
  | [] => rfl
  | [m] => rfl
  | m :: k :: r => by
    rw [setLast, List.map_cons, setLast_it x (k :: r)]
    rfl
theorem setLast_gap (x : Int) : ∀ l : List Nt, (setLast x l).map Nt.gap = l.map Nt.gap
  | [] => rfl
  | [m] => rfl
  | m :: k :: r => by
    rw [setLast, List.map_cons, setLast_gap x (k :: r)]
    rfl
theorem setLast_pl (x : Int) (hx : 1 ≤ x ∧ x ≤ 3) : ∀ l : List Nt, (∀ n ∈ l, 1 ≤ n.pl ∧ n.pl ≤ 3) → ∀ n ∈ setLast x l, 1 ≤ n.pl ∧ n.pl ≤ 3
  | [], h => fun n hn => by simp [setLast] at hn
  | [m], h => fun n hn => by
    rw [setLast, List.mem_singleton] at hn
    subst hn
    exact hx
  | m :: k :: r, h => fun n hn => by
    rw [setLast] at hn
    rcases List.mem_cons.1 hn with rfl | hn
    · exact h _ (List.mem_cons_self ..)
    · exact setLast_pl x hx (k :: r) (fun n hn => h n (List.mem_cons_of_mem _ hn)) n hn
theorem setLast_len (x : Int) (l : List Nt) : (setLast x l).length = l.length := by
  have := congrArg List.length (setLast_it x l)
  simpa using this
theorem settle_it (A : Acc) (b : Bool) : (settle A b).notes.map Nt.it = A.notes.map Nt.it ∧ (settle A b).notes.map Nt.gap = A.notes.map Nt.gap ∧ (settle A b).gap = A.gap ∧ ((∀ n ∈ A.notes, 1 ≤ n.pl ∧ n.pl ≤ 3) → ∀ n ∈ (settle A b).notes, 1 ≤ n.pl ∧ n.pl ≤ 3) ∧ (settle A b).wait = false ∧ (settle A b).ends = A.ends := by
  unfold settle
  by_cases h : A.wait = true
  · rw [if_pos h]
    exact ⟨setLast_it _ _, setLast_gap _ _, rfl, setLast_pl _ (by split <;> omega) _, rfl, rfl⟩
  · rw [if_neg h]
    exact ⟨rfl, rfl, rfl, fun h => h, by simpa using h, rfl⟩
/-- What comments are: those among the items, with gaps that rise. -/
structure Told (l : List It) (A : Acc) : Prop where
  its : A.notes.map Nt.it = l.filter isNote
  gapLe : A.gap ≤ (toksL l).length
  last : ∀ g ∈ A.notes.map Nt.gap, g ≤ A.gap
  rise : (A.notes.map Nt.gap).Pairwise (· ≤ ·)
  pls : ∀ n ∈ A.notes, 1 ≤ n.pl ∧ n.pl ≤ 3
theorem Told.settle {l : List It} {A : Acc} (h : Told l A) (b : Bool) : Told l (Lx.settle A b) := by
  obtain ⟨h1, h2, h3, h4, -⟩ := settle_it A b
  exact ⟨by rw [h1]; exact h.its, by rw [h3]; exact h.gapLe, by rw [h2, h3]; exact h.last, by rw [h2]; exact h.rise, h4 h.pls⟩
theorem Told.step {s : ByteArray} {l : List It} {A : Acc} (h : Told l A) (t : It) : Told (l ++ [t]) (stepA s A t) := by
  have k := h.settle (lineS s t.fr == A.ends)
  unfold stepA
  generalize Lx.settle A (lineS s t.fr == A.ends) = B at k
  by_cases ht : isNote t = true
  · rw [if_pos ht]
    have e : toksL (l ++ [t]) = toksL l := by rw [toksL_add, if_pos ht]
    unfold addNote
    refine ⟨?_, by rw [e]; exact k.gapLe, ?_, ?_, ?_⟩
    · dsimp only
      rw [List.map_append, k.its, List.filter_append]
      simp [ht]
    · dsimp only
      intro g hg
      rw [List.map_append] at hg
      rcases List.mem_append.1 hg with hg | hg
      · exact k.last g hg
      · simp at hg
        omega
    · dsimp only
      rw [List.map_append, List.pairwise_append]
      refine ⟨k.rise, by simp, fun a ha b hb => ?_⟩
      simp at hb
      subst hb
      exact k.last a ha
    · dsimp only
      intro n hn
      rcases List.mem_append.1 hn with hn | hn
      · exact k.pls n hn
      · rw [List.mem_singleton] at hn
        subst hn
        exact ⟨by dsimp only; omega, by dsimp only; omega⟩
  · rw [if_neg ht]
    have e : toksL (l ++ [t]) = toksL l ++ [t] := by rw [toksL_add, if_neg ht]
    unfold addTok
    have hl : (toksL l ++ [t]).length = (toksL l).length + 1 := by rw [List.length_append]; rfl
    have hg := k.gapLe
    refine ⟨?_, ?_, ?_, k.rise, k.pls⟩
    · dsimp only
      rw [k.its, List.filter_append]
      simp [ht]
    · dsimp only
      rw [e, hl]
      split <;> omega
    · dsimp only
      intro g hg
      have := k.last g hg
      split <;> omega
theorem told_all (s : ByteArray) (l : List It) : Told l (accS s l) := by
  have key : ∀ (r l : List It) (A : Acc), Told l A → Told (l ++ r) (r.foldl (stepA s) A) := by
    intro r
    induction r with
    | nil =>
      intro l A h
      rw [List.append_nil]
      exact h
    | cons t r ih =>
      intro l A h
      have := ih (l ++ [t]) _ (h.step (s := s) t)
      rw [List.append_assoc] at this
      exact this
  exact key l [] acc0 ⟨rfl, Nat.le_refl _, fun g hg => by simp [acc0] at hg, by simp [acc0], fun n hn => by simp [acc0] at hn⟩
/-! ### Places rise -/

theorem Row.pair {i : Nat} {l : List It} (h : Row i l) : l.Pairwise (fun a b => a.to ≤ b.fr) ∧ ∀ t ∈ l, i ≤ t.fr := by
  induction h with
  | nil i => exact ⟨.nil, fun t ht => by simp at ht⟩
  | cons h1 h2 h ih =>
    obtain ⟨a, b⟩ := ih
    refine ⟨.cons (fun u hu => b u hu) a, fun u hu => ?_⟩
    rcases List.mem_cons.1 hu with rfl | hu
    · exact h1
    · have := b u hu
      omega
end Go.Proofs.YtmgclgojmckfhaaGreatDoor.Lx
/-
  The place behind a piece of a text is the place ahead of it gone on with over the piece alone, if no newline of two bytes is cut; no item and no row of blanks ends within one. And: how the last token's line tells which comments join. No program is run here.
-/
namespace Go.Proofs.YtmgclgojmckfhaaGreatDoor.Lx
open Go.Lib Gly
open Wrd (rn wd)
set_option linter.unusedSimpArgs false
set_option linter.unusedVariables false

/-! ### The last byte of an item -/

theorem digit_no (b : Nat) (x : UInt8) (h : Num.isD b x = true) : x.toNat ≠ 13 := by
  intro e
  have h3 : 0 ≤ Num.dg b x := of_decide_eq_true h
  have : Num.dg b x = digitI ((x.toNat : Nat) : Int) (b : Int) := rfl
  have hv : digitI ((x.toNat : Nat) : Int) (b : Int) = -1 := by
    rw [e]
    unfold digitI digV
    repeat' split
    all_goals first | omega | (exfalso; rename_i z; revert z; simp [Gly.wthn]; done) | skip
    all_goals (simp [Gly.wthn] at *)
  omega
theorem run_end (b : Nat) (L : List UInt8) (a : Nat) (h : 0 < Num.run b (L.drop a)) : (L.getD (a + Num.run b (L.drop a) - 1) 0).toNat ≠ 13 := by
  obtain ⟨x, hx, hd⟩ := Num.bt_run b (L.drop a) (Num.run b (L.drop a) - 1) (by omega)
  rw [List.getElem?_drop] at hx
  rw [List.getD_eq_getElem?_getD, show a + Num.run b (L.drop a) - 1 = a + (Num.run b (L.drop a) - 1) by omega, hx]
  exact digit_no b x hd
theorem endOr_end (L : List UInt8) (a o : Nat) (h : (L.getD (o - 1) 0).toNat ≠ 13) : (L.getD (Num.endOr L a o - 1) 0).toNat ≠ 13 := by
  unfold Num.endOr
  split
  · rename_i q
    exact run_end 10 L a q
  · exact h
theorem num_end (L : List UInt8) (h : (Num.readL L).kind ≠ 0) : (L.getD ((Num.readL L).fin - 1) 0).toNat ≠ 13 := by
  unfold Num.readL at h ⊢
  split
  · rename_i q
    unfold Num.lettL
    rw [if_pos q]
    exact run_end _ L 2 q
  · rename_i q
    rw [if_neg q] at h
    obtain ⟨h1, h2⟩ := Num.decL_pos L h
    rw [h2]
    have h0 := run_end 10 L 0 (by rw [List.drop_zero]; exact h1)
    rw [List.drop_zero, Nat.zero_add] at h0
    have hf : (L.getD (Num.fracE L (Num.run 10 L) - 1) 0).toNat ≠ 13 := by
      unfold Num.fracE
      split
      · exact endOr_end L _ _ h0
      · exact h0
    unfold Num.expE
    split
    · exact endOr_end L _ _ hf
    · exact hf
/-- A rune that is not 13 ends with no byte 13. -/
theorem rune_end {L : List UInt8} (hne : L ≠ []) (hg : decodeL L ≠ (65533, 1)) (h : rn L ≠ 13) : (L.getD (wd L - 1) 0).toNat ≠ 13 := by
  rcases (show rn L < 128 ∨ 128 ≤ rn L by omega) with z | z
  · obtain ⟨e1, e2⟩ := Wrd.ascii_rn L z
    rw [e1, Nat.sub_self]
    intro k
    rw [k] at e2
    exact h (by omega)
  · have hw := Wrd.wd_pos L
    have hx := Wrd.wd_le L hne
    have hm : L.getD (wd L - 1) 0 ∈ L.take (wd L) := by
      rw [Wrd.getD_take (k := wd L) (by omega), List.getD_eq_getElem?_getD, List.getElem?_eq_getElem (by rw [List.length_take]; omega)]
      exact List.getElem_mem _
    have := Qt.rn_wide L z hg _ hm
    omega
theorem getD_behind (L : List UInt8) (a n : Nat) (h : 0 < n) : L.getD (a + n - 1) 0 = (L.drop a).getD (n - 1) 0 := by
  rw [List.getD_eq_getElem?_getD, List.getD_eq_getElem?_getD, List.getElem?_drop, show a + (n - 1) = a + n - 1 by omega]
theorem runP_end (P : Int → Bool) (hP : P 13 = false) : ∀ (k : Nat) (L : List UInt8), L.length ≤ k → Ok L → 0 < Wrd.run P L → (L.getD (Wrd.run P L - 1) 0).toNat ≠ 13 := by
  intro k
  induction k with
  | zero =>
    intro L hl _ h
    obtain rfl : L = [] := List.eq_nil_of_length_eq_zero (by omega)
    rw [Wrd.run_stop P [] (.inl rfl)] at h
    omega
  | succ k ih =>
    intro L hl hok h
    cases hok with
    | nil =>
      rw [Wrd.run_stop P [] (.inl rfl)] at h
      omega
    | step hne hg hc hok =>
      cases hp : P (rn L) with
      | false =>
        rw [Wrd.run_stop P L (.inr hp)] at h
        omega
      | true =>
        have hw := Wrd.wd_pos L
        have hr : rn L ≠ 13 := by
          intro e
          rw [e, hP] at hp
          cases hp
        rw [Wrd.run_step P L hne hp]
        by_cases h0 : Wrd.run P (L.drop (wd L)) = 0
        · rw [h0, Nat.add_zero]
          exact rune_end hne hg hr
        · rw [getD_behind L _ _ (by omega)]
          exact ih _ (by rw [List.length_drop]; omega) hok (by omega)
theorem part_end (L : List UInt8) (hL : Ok L) (h : (Wrd.part L).1 ≠ 0) : 0 < (Wrd.part L).2 ∧ (L.getD ((Wrd.part L).2 - 1) 0).toNat ≠ 13 := by
  have hne : L ≠ [] := by
    rintro rfl
    exact h rfl
  have hl := Wrd.wd_pos L
  have pos : ∀ P : Int → Bool, P (rn L) = true → 0 < Wrd.run P L := fun P hp => by
    rw [Wrd.run_step P L hne hp]
    omega
  have n13 : Wrd.nameB 13 = false := by decide +kernel
  have s13 : Wrd.symP 13 = false := by decide +kernel
  unfold Wrd.part at h ⊢
  rw [if_neg hne] at h ⊢
  by_cases h2 : classI (rn L) = 2
  · rw [if_pos h2]
    have := pos _ (Wrd.name_of _ (.inl h2))
    exact ⟨this, runP_end _ n13 _ L (Nat.le_refl _) hL this⟩
  rw [if_neg h2] at h ⊢
  by_cases h3 : classI (rn L) = 3
  · rw [if_pos h3]
    have := pos _ (Wrd.name_of _ (.inr h3))
    exact ⟨this, runP_end _ n13 _ L (Nat.le_refl _) hL this⟩
  rw [if_neg h3] at h ⊢
  by_cases h5 : classI (rn L) = 5
  · rw [if_pos h5]
    have := pos _ (Wrd.sym_of _ h5)
    exact ⟨this, runP_end _ s13 _ L (Nat.le_refl _) hL this⟩
  rw [if_neg h5] at h ⊢
  by_cases h6 : classI (rn L) = 6
  · rw [if_pos h6]
    refine ⟨hl, ?_⟩
    cases hL with
    | nil => exact absurd rfl hne
    | step _ hg _ _ =>
      refine rune_end hne hg ?_
      intro e
      rw [e] at h6
      exact absurd h6 (by decide +kernel)
  · rw [if_neg h6] at h
    exact absurd rfl h
theorem word_end {L : List UInt8} {k : Int} {n p : Nat} (h : Wrd.Lex L k n p) (hL : Ok L) : 0 < n ∧ (L.getD (n - 1) 0).toNat ≠ 13 := by
  induction h with
  | first h => exact part_end L hL h
  | more h hk hm ih =>
    rename_i k n p
    rcases Wrd.more_cases (L.drop n) with ⟨e, -⟩ | ⟨a, b, c, e⟩
    · rw [e] at hm
      exact absurd rfl hm
    · rw [e]
      dsimp only
      have hq : (Wrd.part ((L.drop n).drop 1)).1 ≠ 0 := by
        intro z
        rw [z] at c
        exact c rfl
      have hr := Wrd.point_head b
      have hw : wd (L.drop n) = 1 := (Wrd.ascii_rn _ (by rw [hr]; decide)).1
      have hbd : Bd L (n + 1) := by
        refine (bd_word h).add ?_
        have := Bd.step (L := L.drop n) (n := 0) a (.zero _)
        rw [hw] at this
        exact this
      have hok := hL.drop hbd
      rw [List.drop_drop] at hq
      obtain ⟨g1, g2⟩ := part_end _ hok hq
      rw [List.drop_drop]
      refine ⟨by omega, ?_⟩
      rw [show n + (1 + (Wrd.part (L.drop (n + 1))).2) - 1 = (n + 1) + (Wrd.part (L.drop (n + 1))).2 - 1 by omega, getD_behind L _ _ g1]
      exact g2
theorem lex_end (L : List UInt8) (hL : Ok L) (h : (lexL L).2.2 = 0) : (L.getD ((lexL L).2.1 - 1) 0).toNat ≠ 13 := by
  have hk := lex_kind L h
  rcases lex_cases L h with ⟨h1, e⟩ | ⟨h1, h2, h3, e⟩ | ⟨h1, h2, h3, e⟩
  · rw [e]
    exact num_end L h1
  · rw [e]
    dsimp only
    rw [Nat.add_sub_cancel_left]
    rcases Qt.read_ok L h2 h3 with ⟨q, r, e1, -, e2⟩ | ⟨q, p, r, -, -, e1, -, -, -, e2⟩
    · rw [e2]
      conv => lhs; arg 1; arg 1; rw [e1]
      rw [List.getD_cons_succ, List.getD_eq_getElem?_getD, List.getElem?_append_right (Nat.le_refl _), Nat.sub_self]
      show (34 : UInt8).toNat ≠ 13
      decide
    · rw [e2]
      conv => lhs; arg 1; arg 1; rw [e1]
      rw [List.getD_cons_succ, List.getD_eq_getElem?_getD, List.getElem?_append_right (Nat.le_refl _), Nat.sub_self]
      show (39 : UInt8).toNat ≠ 13
      decide
  · rw [e]
    rcases Wrd.scan_cases L with ⟨q, -⟩ | ⟨hx, -⟩
    · rw [q] at h3
      exact absurd rfl h3
    · exact (word_end hx hL).2
theorem nl_13 (b : UInt8) (h : Not.nl b = false) : b.toNat ≠ 13 := by
  have := Not.byte_all (fun b => Not.nl b || decide (b.toNat ≠ 13)) (by decide +kernel) b
  rw [h] at this
  simpa using this
theorem nlEnd_before : ∀ (L : List UInt8) (i : Nat), i < Not.nlEnd L → (L.getD i 0).toNat ≠ 13
  | [], i, h => by simp [Not.nlEnd] at h
  | b :: r, i, h => by
    rw [Not.nlEnd] at h
    split at h
    · omega
    · rename_i hb
      cases i with
      | zero => exact nl_13 b (by simpa using hb)
      | succ i =>
        rw [List.getD_cons_succ]
        exact nlEnd_before r i (by omega)
theorem note_end (L : List UInt8) (hL : Ok L) (h : (Not.scanN L).1 ≠ 0) : (L.getD ((Not.scanN L).1 - 1) 0).toNat ≠ 13 := by
  rcases note_cases L with ⟨-, -, e⟩ | ⟨h1, h2, e⟩ | ⟨h1, h2, h3, e⟩ | ⟨-, -, e⟩
  · rw [e] at h
    exact absurd rfl h
  · rw [e]
    dsimp only
    have := endA_last _ _ _ (by decide) h2
    rw [List.getD_eq_getElem?_getD, List.getElem?_drop, ← List.getD_eq_getElem?_getD] at this
    rw [show Not.endA 1 0 (L.drop 2) + 2 - 1 = 2 + (Not.endA 1 0 (L.drop 2) - 1) by omega, this]
    decide
  · rw [e]
    dsimp only
    by_cases z : Not.nlEnd (L.drop (Wrd.run Not.symP L)) = 0
    · rw [z, Nat.add_zero]
      exact runP_end Not.symP (by decide +kernel) _ L (Nat.le_refl _) hL (by omega)
    · rw [getD_behind L _ _ (by omega)]
      exact nlEnd_before _ _ (by omega)
  · rw [e] at h
    exact absurd rfl h

/-! ### Pieces -/

/-- No newline of two bytes has its first byte ahead of a place, its second one behind it. -/
def Cut (s : ByteArray) (j : Nat) : Prop := ¬ (0 < j ∧ j < s.size ∧ Plc.bt s (j - 1) = 13 ∧ Plc.bt s j = 10)
theorem rest_piece (s : ByteArray) (i j p : Nat) (hi : i ≤ p) (hp : p ≤ j) : rest (s.extract i j) (p - i) = (rest s p).take (j - p) := by
  have h := piece_rest s i (j - i)
  rw [show i + (j - i) = j by omega] at h
  unfold rest at h ⊢
  rw [h, List.drop_take, List.drop_drop, show i + (p - i) = p by omega, show j - i - (p - i) = j - p by omega]
theorem size_piece (s : ByteArray) (i j : Nat) (hij : i ≤ j) (hj : j ≤ s.size) : (s.extract i j).size = j - i := by
  rw [ByteArray.size_extract, Nat.min_eq_left hj]
theorem bt_rest (s : ByteArray) (n : Nat) : Plc.bt s n = ((rest s n).getD 0 0).toNat := by
  rw [Plc.bt_getD]
  unfold rest
  rw [List.getD_eq_getElem?_getD, List.getD_eq_getElem?_getD, List.getElem?_drop, Nat.add_zero]
theorem bt_piece (s : ByteArray) (i j p : Nat) (hi : i ≤ p) (hp : p < j) : Plc.bt (s.extract i j) (p - i) = Plc.bt s p := by
  rw [bt_rest, rest_piece s i j p hi (by omega), bt_rest, List.getD_eq_getElem?_getD, List.getD_eq_getElem?_getD, List.getElem?_take, if_pos (by omega)]
theorem nl_piece (s : ByteArray) (i j p : Nat) (hi : i ≤ p) (hp : p < j) (hj : j ≤ s.size) (hc : Cut s j) : Plc.nlAt (s.extract i j) (p - i) = Plc.nlAt s p := by
  have hs := size_piece s i j (by omega) hj
  unfold Plc.nlAt
  rw [bt_piece s i j p hi hp, hs, if_neg (by omega), if_neg (show ¬ s.size ≤ p by omega)]
  by_cases h1 : p + 1 < j
  · have e : Plc.bt (s.extract i j) (p - i + 1) = Plc.bt s (p + 1) := by
      have := bt_piece s i j (p + 1) (by omega) h1
      rw [show p + 1 - i = p - i + 1 by omega] at this
      exact this
    rw [e]
    have e2 : (p - i + 1 < j - i ∧ Plc.bt s (p + 1) = 10) ↔ (p + 1 < s.size ∧ Plc.bt s (p + 1) = 10) := ⟨fun q => ⟨by omega, q.2⟩, fun q => ⟨by omega, q.2⟩⟩
    simp only [e2]
  · obtain rfl : j = p + 1 := by omega
    by_cases h13 : Plc.bt s p = 13
    · have e3 : ¬ (p + 1 < s.size ∧ Plc.bt s (p + 1) = 10) := fun q => hc ⟨by omega, q.1, h13, q.2⟩
      rw [if_neg (show ¬ (p - i + 1 < p + 1 - i ∧ _) by intro q; omega), if_neg e3]
    · rw [if_neg h13, if_neg h13]
theorem adv_piece (s : ByteArray) (i j p : Nat) (hi : i ≤ p) (hp : p < j) (hj : j ≤ s.size) (hc : Cut s j) (st : Int × Int) : Plc.adv (s.extract i j) (p - i) st = Plc.adv s p st := by
  unfold Plc.adv
  rw [nl_piece s i j p hi hp hj hc, bt_piece s i j p hi hp]
theorem scan_piece (s : ByteArray) (i j : Nat) (hj : j ≤ s.size) (hc : Cut s j) : ∀ {L : List UInt8} {n : Nat}, Bd L n → Ok L → ∀ (p f g : Nat) (st : Int × Int), L = rest s p → i ≤ p → p + n = j → s.size ≤ p + f → j ≤ p + g →
    Plc.scan s j f p st = Plc.scan (s.extract i j) (j - i) g (p - i) st := by
  intro L n h
  induction h with
  | zero L =>
    intro hok p f g st hL hi hn hf hg
    have hz := size_piece s i j (by omega) hj
    rw [Plc.scan_stop s j f p st (by have := width_ge s p; omega), Plc.scan_stop _ _ g _ st (by omega)]
  | step hne h ih =>
    rename_i L n
    intro hok p f g st hL hi hn hf hg
    cases hok with
    | nil => exact absurd rfl hne
    | step _ hgd _ hok =>
      have hp : p < s.size := by
        rcases Nat.lt_or_ge p s.size with q | q
        · exact q
        · exact absurd (by rw [hL]; exact rest_nil s p q) hne
      have hw : wd L = (Utf8.decode s p).2 := by rw [hL]; exact wd_rest s p
      have hw1 := width_ge s p
      have hz := size_piece s i j (by omega) hj
      have hl := Wrd.wd_le L hne
      have e := Qt.dec_same L (L.take (j - p)) hgd (by rw [List.length_take]; omega) (by rw [List.take_take, Nat.min_eq_left (by omega)])
      have hd : (Utf8.decode (s.extract i j) (p - i)).2 = wd L := by
        rw [← wd_rest, rest_piece s i j p hi (by omega), ← hL]
        exact congrArg Prod.snd e
      rw [Plc.scan_go s j f p st ⟨hp, by omega⟩ hf, Plc.scan_go _ _ g _ st ⟨by omega, by omega⟩ (by omega), adv_piece s i j p hi (by omega) hj hc, hd, ← hw]
      have := ih hok (p + wd L) (f - 1) (g - 1) (Plc.adv s p st) (by rw [hL, rest_drop]) (by omega) (by omega) (by omega) (by omega)
      rw [show p + wd L - i = p - i + wd L by omega] at this
      exact this
/-- A piece of a text: it begins and ends between runes, and cuts no newline. -/
structure Pc (s : ByteArray) (i j : Nat) : Prop where
  le : i ≤ j
  fits : j ≤ s.size
  from_ : Bd (rest s 0) i
  to : Bd (rest s i) (j - i)
  cut : Cut s j
theorem spot_piece {s : ByteArray} {i j : Nat} (hs : Ok (rest s 0)) (h : Pc s i j) : Plc.spot s 1 j = Plc.scan (s.extract i j) (j - i) (j - i) 0 (Plc.spot s 1 i) := by
  have e := scan_at s h.from_ 0 j s.size (1, 1) rfl (by have := h.le; omega) h.fits (by omega)
  rw [Nat.zero_add] at e
  unfold Plc.spot
  rw [e]
  have hok := hs.drop h.from_
  rw [rest_drop, Nat.zero_add] at hok
  have hle := h.le
  have := scan_piece s i j h.fits h.cut h.to hok i s.size (j - i) (Plc.scan s i s.size 0 (1, 1)) rfl (Nat.le_refl _) (by omega) (by omega) (by omega)
  rw [Nat.sub_self] at this
  exact this
theorem scan_moved (s : ByteArray) (a : Nat) : ∀ (f p : Nat) (x y : Int × Int), (Plc.scan s a f p x).1 - x.1 = (Plc.scan s a f p y).1 - y.1
  | 0, p, x, y => by unfold Plc.scan; omega
  | f + 1, p, x, y => by
    unfold Plc.scan
    split
    · have h1 := scan_moved s a f (p + (Utf8.decode s p).2) (Plc.adv s p x) (Plc.adv s p y)
      have h2 : (Plc.adv s p x).1 - x.1 = (Plc.adv s p y).1 - y.1 := by
        unfold Plc.adv
        repeat' split
        all_goals ((try dsimp only); omega)
      omega
    · omega
theorem piece_line {s : ByteArray} {i j : Nat} (hs : Ok (rest s 0)) (h : Pc s i j) : lineS s j = lineS s i + ((Plc.spot (s.extract i j) 1 (j - i)).1 - 1) := by
  have e := spot_piece hs h
  have hz := size_piece s i j h.le h.fits
  have := scan_moved (s.extract i j) (j - i) (j - i) 0 (Plc.spot s 1 i) (1, 1)
  unfold lineS
  rw [e]
  have e2 : Plc.spot (s.extract i j) 1 (j - i) = Plc.scan (s.extract i j) (j - i) (j - i) 0 (1, 1) := by
    unfold Plc.spot
    rw [hz]
  rw [e2]
  omega
theorem piece_col {s : ByteArray} {i j : Nat} (hs : Ok (rest s 0)) (h : Pc s i j) : colS s j = (Plc.spot (s.extract i j) (colS s i) (j - i)).2 := by
  have e := spot_piece hs h
  have hz := size_piece s i j h.le h.fits
  unfold colS
  rw [e]
  conv => rhs; unfold Plc.spot
  rw [hz]
  exact Plc.scan_line (s.extract i j) (j - i) (j - i) 0 _ _ _
theorem scan_bd (s : ByteArray) (a : Nat) : ∀ (f p : Nat) (x : Int × Int), p ≤ a → 1 ≤ x.1 → 1 ≤ x.2 →
    1 ≤ (Plc.scan s a f p x).1 ∧ (Plc.scan s a f p x).1 ≤ x.1 + ((a - p : Nat) : Int) ∧ 1 ≤ (Plc.scan s a f p x).2 ∧ (Plc.scan s a f p x).2 ≤ x.2 + 8 * ((a - p : Nat) : Int)
  | 0, p, x, hp, h1, h2 => by unfold Plc.scan; omega
  | f + 1, p, x, hp, h1, h2 => by
    unfold Plc.scan
    split
    · rename_i q
      have hw := width_ge s p
      have hb := Plc.adv_bd s p x x.1 x.2 ⟨h1, Int.le_refl _⟩ ⟨h2, Int.le_refl _⟩
      have := scan_bd s a f (p + (Utf8.decode s p).2) (Plc.adv s p x) q.2 hb.1.1 hb.2.1
      omega
    · omega
theorem spot_bd (s : ByteArray) (n : Nat) : 1 ≤ lineS s n ∧ lineS s n ≤ 1 + (n : Int) ∧ 1 ≤ colS s n ∧ colS s n ≤ 1 + 8 * (n : Int) := by
  have := scan_bd s n s.size 0 (1, 1) (Nat.zero_le _) (by decide) (by decide)
  unfold lineS colS Plc.spot
  omega
theorem line_mono (s : ByteArray) {a b : Nat} (h : a ≤ b) : lineS s a ≤ lineS s b := by
  have := Plc.scan_mono s a b h s.size 0 (1, 1)
  unfold lineS Plc.spot
  unfold Plc.le2 at this
  omega

/-! ### What is passed -/

theorem blank_10 : Qt.blkP 10 = true := by decide +kernel
theorem cut_of (s : ByteArray) (j : Nat) (h : s.size ≤ j ∨ Qt.blkP (rn (rest s j)) = false) : Cut s j := by
  rintro ⟨h1, h2, h3, h4⟩
  rcases h with h | h
  · omega
  · have hr : rn (rest s j) = ((Plc.bt s j : Nat) : Int) := by rw [rn_rest, Plc.rune_ascii s j (by omega)]
    rw [hr, h4] at h
    exact absurd (h.symm.trans blank_10) (by decide)
theorem run_behind (P : Int → Bool) : ∀ (k : Nat) (L : List UInt8), L.length ≤ k → L.drop (Wrd.run P L) = [] ∨ P (rn (L.drop (Wrd.run P L))) = false := by
  intro k
  induction k with
  | zero =>
    intro L hl
    obtain rfl : L = [] := List.eq_nil_of_length_eq_zero (by omega)
    exact .inl (by simp)
  | succ k ih =>
    intro L hl
    by_cases hne : L = []
    · subst hne
      exact .inl (by simp)
    cases hp : P (rn L) with
    | false =>
      rw [Wrd.run_stop P L (.inr hp), List.drop_zero]
      exact .inr hp
    | true =>
      have hw := Wrd.wd_pos L
      rw [Wrd.run_step P L hne hp, ← List.drop_drop]
      exact ih _ (by rw [List.length_drop]; omega)
/-- Blanks are a piece. -/
theorem pc_skip {s : ByteArray} {i : Nat} (hi : Bd (rest s 0) i) (hl : i ≤ s.size) : Pc s i (skp s i) := by
  have hb := bd_run Qt.blkP _ (rest s i) (Nat.le_refl _)
  have hg := skp_ge s i
  have hx := skp_le s i hl
  refine ⟨hg, hx, hi, ?_, ?_⟩
  · unfold skp
    rw [Nat.add_sub_cancel_left]
    exact hb
  · refine cut_of s _ ?_
    have := run_behind Qt.blkP _ (rest s i) (Nat.le_refl _)
    rw [rest_drop] at this
    rcases this with h | h
    · left
      have hlen := rest_len s (i + Wrd.run Qt.blkP (rest s i))
      rw [h, List.length_nil] at hlen
      unfold skp at hx ⊢
      omega
    · exact .inr h
theorem bd_skip {s : ByteArray} {i : Nat} (hi : Bd (rest s 0) i) : Bd (rest s 0) (skp s i) := by
  refine hi.add ?_
  rw [rest_drop, Nat.zero_add]
  exact bd_run _ _ _ (Nat.le_refl _)
/-- So is an item. -/
theorem pc_item {s : ByteArray} (hs : Ok (rest s 0)) {j : Nat} (hj : Bd (rest s 0) j) {t : It} (hn : nxt s j = .item t) : Pc s j t.to := by
  obtain ⟨h1, h2, h3, h4, h5, h6⟩ := nxt_item hn
  have hok := hs.drop hj
  rw [rest_drop, Nat.zero_add] at hok
  have key : ∃ n, t.to = j + n ∧ 0 < n ∧ Bd (rest s j) n ∧ ((rest s j).getD (n - 1) 0).toNat ≠ 13 := by
    rcases h6 with ⟨-, a, b⟩ | ⟨-, -, -, a, -, b⟩
    · exact ⟨_, b, by omega, bd_note _ hok a, note_end _ hok a⟩
    · exact ⟨_, b, by omega, bd_lex _ hok a, lex_end _ hok a⟩
  obtain ⟨n, e, hpos, hb, h13⟩ := key
  refine ⟨by omega, h4, hj, by rw [e, Nat.add_sub_cancel_left]; exact hb, ?_⟩
  rintro ⟨-, -, q, -⟩
  apply h13
  rw [← q, e, Plc.bt_getD]
  unfold rest
  rw [List.getD_eq_getElem?_getD, List.getD_eq_getElem?_getD, List.getElem?_drop, show j + (n - 1) = j + n - 1 by omega]
theorem at_bd {s : ByteArray} (hs : Ok (rest s 0)) {i : Nat} {acc : List It} (h : At s i acc) : Bd (rest s 0) i := (at_fair hs h).1

/-! ### Comments, told by the last token's line -/

/-- The line in which the last token ends; 0: there is none. -/
def lastS (s : ByteArray) (l : List It) : Int := l.foldl (fun a t => if isNote t = true then a else lineS s t.to) 0
theorem lastS_add (s : ByteArray) (l : List It) (t : It) : lastS s (l ++ [t]) = if isNote t = true then lastS s l else lineS s t.to := by
  unfold lastS
  rw [List.foldl_append]
  rfl
/-- What the last token's line says of what stands ahead. -/
structure Lst (s : ByteArray) (i : Nat) (A : Acc) (l : Int) : Prop where
  pos : 0 ≤ l
  le : l ≤ lineS s i
  ends : A.ends ≤ lineS s i
  yes : A.joins = true → A.ends = l
  no : A.joins = false → A.wait = false ∧ (l = 0 ∨ l < A.ends)
theorem settle_joins (A : Acc) (b : Bool) (h : A.joins = false → A.wait = false) : ((settle A b).joins && b) = (A.joins && b) := by
  unfold settle
  by_cases hw : A.wait = true
  · rw [if_pos hw]
    have : A.joins = true := by
      cases hj : A.joins with
      | true => rfl
      | false =>
        rw [h hj] at hw
        cases hw
    dsimp only
    rw [this]
    cases b <;> rfl
  · rw [if_neg hw]
/-- Does a comment join, and end in the line where it begins? -/
theorem joins_is {s : ByteArray} {i j to : Nat} {A : Acc} {l : Int} (h : Lst s i A l) (hij : i ≤ j) (hjt : j ≤ to) :
    ((settle A (lineS s j == A.ends)).joins && ((settle A (lineS s j == A.ends)).ends == lineS s j) && (lineS s to == lineS s j)) = (lineS s to == l) ∧ (lineS s to = l → lineS s j = l) := by
  have h1 := line_mono s hij
  have h2 := line_mono s hjt
  have h3 := (spot_bd s to).1
  obtain ⟨p, a, b, y, n⟩ := h
  have he : (settle A (lineS s j == A.ends)).ends = A.ends := (settle_it A _).2.2.2.2.2
  have hc : (A.ends == lineS s j) = (lineS s j == A.ends) := by
    by_cases q : A.ends = lineS s j
    · rw [q]
    · rw [beq_eq_false_iff_ne.2 q, beq_eq_false_iff_ne.2 (fun e => q e.symm)]
  rw [he, hc, settle_joins A _ (fun q => (n q).1)]
  cases hj : A.joins with
  | true =>
    have ye := y hj
    refine ⟨?_, fun e => by omega⟩
    rw [Bool.true_and, ye]
    by_cases q : lineS s to = l
    · rw [beq_iff_eq.2 q, beq_iff_eq.2 (show lineS s j = l by omega), beq_iff_eq.2 (show lineS s to = lineS s j by omega)]
      rfl
    · rw [beq_eq_false_iff_ne.2 q]
      by_cases q2 : lineS s j = l
      · rw [beq_eq_false_iff_ne.2 (show lineS s to ≠ lineS s j by omega), Bool.and_false]
      · rw [beq_eq_false_iff_ne.2 q2, Bool.false_and]
  | false =>
    obtain ⟨-, n2⟩ := n hj
    have hne : lineS s to ≠ l := by omega
    refine ⟨?_, fun e => absurd e hne⟩
    rw [beq_eq_false_iff_ne.2 hne, Bool.false_and, Bool.false_and]
theorem lst_step {s : ByteArray} {i : Nat} {A : Acc} {l : Int} (h : Lst s i A l) {t : It} (hij : i ≤ t.fr) (hjt : t.fr ≤ t.to) : Lst s t.to (stepA s A t) (if isNote t = true then l else lineS s t.to) := by
  have h1 := line_mono s hij
  have h2 := line_mono s hjt
  have h3 := (spot_bd s t.to).1
  obtain ⟨k1, k2⟩ := joins_is h hij hjt
  have hp := h.pos
  have hl := h.le
  have he := h.ends
  unfold stepA
  by_cases ht : isNote t = true
  · rw [if_pos ht, if_pos ht]
    unfold addNote
    rw [k1]
    refine ⟨hp, by omega, by dsimp only; omega, ?_, ?_⟩
    · dsimp only
      intro q
      exact beq_iff_eq.1 q
    · dsimp only
      intro q
      have := beq_eq_false_iff_ne.1 q
      exact ⟨q, .inr (by omega)⟩
  · rw [if_neg ht, if_neg ht]
    unfold addTok
    refine ⟨by omega, Int.le_refl _, by dsimp only; omega, fun _ => rfl, fun q => ?_⟩
    dsimp only at q
    cases q
theorem at_lst {s : ByteArray} {i : Nat} {acc : List It} (h : At s i acc) : Lst s i (accS s acc) (lastS s acc) := by
  induction h with
  | start =>
    have := spot_bd s 0
    exact ⟨Int.le_refl _, by show (0 : Int) ≤ _; omega, by show (0 : Int) ≤ _; omega, fun _ => rfl, fun _ => ⟨rfl, .inl rfl⟩⟩
  | more h hn ih =>
    rename_i i acc t
    have ht := nxt_item hn
    rw [accS_add, lastS_add]
    exact lst_step ih (by rw [ht.2.1]; exact skp_ge s i) (by omega)
/-- The comments told when the next item's place is known. -/
def notesP (s : ByteArray) (acc : List It) (i : Nat) : List Nt := (settle (accS s acc) (decide (skp s i < s.size) && (lineS s (skp s i) == (accS s acc).ends))).notes
/-- Where a comment stands, told by the last token's line. -/
def placeP (s : ByteArray) (l : Int) (t : It) : Int := if lineS s t.to = l ∧ lineS s (skp s t.to) = lineS s t.fr ∧ skp s t.to < s.size then 1 else if lineS s t.to = l then 2 else 3
theorem notes_end (s : ByteArray) (acc : List It) (i : Nat) (h : s.size ≤ skp s i) : notesP s acc i = notesL s acc := by
  unfold notesP notesL
  rw [decide_eq_false (by omega), Bool.false_and]
theorem notes_tok {s : ByteArray} {i : Nat} {acc : List It} {t : It} (hn : nxt s (skp s i) = .item t) (ht : isNote t = false) : notesP s (acc ++ [t]) t.to = notesP s acc i := by
  have hi := nxt_item hn
  unfold notesP
  rw [accS_add]
  unfold stepA
  rw [if_neg (by rw [ht]; decide), decide_eq_true hi.1, Bool.true_and, hi.2.1]
  have hw : ∀ A : Acc, ∀ b, A.wait = false → (settle A b).notes = A.notes := fun A b q => by
    unfold settle
    rw [if_neg (by rw [q]; decide)]
  rw [hw]
  · rfl
  · exact (settle_it (accS s acc) _).2.2.2.2.1
theorem notes_note {s : ByteArray} {i : Nat} {acc : List It} {t : It} (h : At s i acc) (hn : nxt s (skp s i) = .item t) (ht : isNote t = true) :
    notesP s (acc ++ [t]) t.to = notesP s acc i ++ [⟨t, (accS s acc).gap, placeP s (lastS s acc) t⟩] ∧ (accS s (acc ++ [t])).gap = (accS s acc).gap ∧ lastS s (acc ++ [t]) = lastS s acc := by
  have hi := nxt_item hn
  have hl := at_lst h
  have hg := skp_ge s i
  obtain ⟨k1, k2⟩ := joins_is hl (i := i) (j := skp s i) (to := t.to) hg (by omega)
  refine ⟨?_, ?_, by rw [lastS_add, if_pos ht]⟩
  · unfold notesP placeP
    rw [accS_add]
    unfold stepA
    rw [if_pos ht, decide_eq_true hi.1, Bool.true_and, hi.2.1]
    generalize hB : settle (accS s acc) (lineS s (skp s i) == (accS s acc).ends) = B at *
    have hgap : B.gap = (accS s acc).gap := by
      rw [← hB]
      exact (settle_it _ _).2.2.1
    unfold addNote
    rw [hi.2.1, k1]
    unfold settle
    dsimp only
    by_cases q : lineS s t.to = lastS s acc
    · rw [if_pos (beq_iff_eq.2 q), hgap]
      dsimp only
      rw [setLast_app]
      dsimp only
      congr 2
      have e : lineS s t.to = lineS s (skp s i) := by rw [k2 q, q]
      rw [← e]
      by_cases z1 : skp s t.to < s.size
      · by_cases z2 : lineS s (skp s t.to) = lineS s t.to
        · rw [decide_eq_true z1, beq_iff_eq.2 z2, if_pos (show (true && true) = true from rfl), if_pos ⟨q, z2, z1⟩]
        · rw [decide_eq_true z1, beq_eq_false_iff_ne.2 z2, if_neg (show ¬ (true && false) = true by decide), if_neg (fun w => z2 w.2.1), if_pos q]
      · rw [decide_eq_false z1, Bool.false_and, if_neg (show ¬ false = true by decide), if_neg (fun w => z1 w.2.2), if_pos q]
    · rw [if_neg (by rw [beq_iff_eq]; exact q), hgap, if_neg (fun w => q w.1), if_neg q]
  · rw [accS_add]
    unfold stepA
    rw [if_pos ht]
    exact (settle_it _ _).2.2.1
theorem gap_tok {s : ByteArray} {acc : List It} {t : It} (ht : isNote t = false) : (accS s (acc ++ [t])).gap = (if counts s t = true then (accS s acc).gap + 1 else (accS s acc).gap) ∧ lastS s (acc ++ [t]) = lineS s t.to := by
  refine ⟨?_, by rw [lastS_add, if_neg (by rw [ht]; decide)]⟩
  rw [accS_add]
  unfold stepA
  rw [if_neg (by rw [ht]; decide)]
  unfold addTok
  dsimp only
  rw [(settle_it _ _).2.2.1]
theorem gap_le (s : ByteArray) {i : Nat} {acc : List It} (h : At s i acc) : (accS s acc).gap ≤ i := by
  have := (told_all s acc).gapLe
  have h1 := h.count
  have h2 : (toksL acc).length ≤ acc.length := List.length_filter_le _ _
  omega
theorem notesP_len (s : ByteArray) {i : Nat} {acc : List It} (h : At s i acc) : (notesP s acc i).length ≤ i := by
  have h0 := ((told_all s acc).settle (decide (skp s i < s.size) && (lineS s (skp s i) == (accS s acc).ends))).its
  have h1 := h.count
  have h2 : (acc.filter isNote).length ≤ acc.length := List.length_filter_le _ _
  have := congrArg List.length h0
  rw [List.length_map] at this
  unfold notesP
  omega
end Go.Proofs.YtmgclgojmckfhaaGreatDoor.Lx
