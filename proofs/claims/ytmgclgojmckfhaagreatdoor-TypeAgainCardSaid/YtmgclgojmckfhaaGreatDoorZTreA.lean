/-
  Trees: a row of trees as first tree and rest; how many, how deep, which leaves; their texts, and what is read of a text. No program is run here.
-/
import Derived.Test.YtmgclgojmckfhaaGreatDoorZTk
import Derived.Deep.QuietTactic
import Derived.BigQuiet
import Derived.Deep.RegionWith
import Derived.Deep.RegionHeld3
import Derived.Deep.Cut
import Derived.Lib.AppendStr
import Derived.Lib.BufferRead
import Derived.ArgAppend
import Derived.Deep.AppendLies
import Derived.StillTailTactics
import Derived.Deep.RegionLaw
import Derived.Deep.TreeCalls
import Derived.Below
namespace Go.Proofs.YtmgclgojmckfhaaGreatDoor.Tre
open Tks Go.RowKit
set_option linter.unusedSimpArgs false
set_option linter.unusedVariables false

/-- A node without its kids. -/
structure Hd where
  kind : Int
  form : Int
  text : ByteArray
  line : Int
  col : Int
/-- A row of trees. -/
inductive Fo where
  | nil : Fo
  | cons : Hd → Fo → Fo → Fo
def len : Fo → Nat
  | .nil => 0
  | .cons _ _ r => len r + 1
/-- The row from a place on. -/
def dropF : Nat → Fo → Fo
  | 0, f => f
  | _ + 1, .nil => .nil
  | n + 1, .cons _ _ r => dropF n r
theorem drop_cons : ∀ (n : Nat) (f : Fo), n < len f → ∃ h k, dropF n f = .cons h k (dropF (n + 1) f)
  | 0, .nil, hn => absurd hn (by decide)
  | 0, .cons h k r, _ => ⟨h, k, by cases r <;> rfl⟩
  | n + 1, .nil, hn => absurd hn (by simp [len])
  | n + 1, .cons h k r, hn => drop_cons n r (by simp [len] at hn; omega)
theorem drop_len : ∀ f : Fo, dropF (len f) f = .nil
  | .nil => rfl
  | .cons h k r => drop_len r
/-- What holds of each tree of a row, whatever the row: by what holds of its kids. -/
inductive MemF (h : Hd) (k : Fo) : Fo → Prop where
  | head (r : Fo) : MemF h k (.cons h k r)
  | tail (h' : Hd) (k' r : Fo) : MemF h k r → MemF h k (.cons h' k' r)
theorem mem_drop {h : Hd} {k r : Fo} : ∀ (n : Nat) (f : Fo), dropF n f = .cons h k r → MemF h k f
  | 0, f, e => by
    have e : f = .cons h k r := by cases f <;> exact e
    subst e
    exact .head r
  | n + 1, .nil, e => by cases e
  | n + 1, .cons h' k' r', e => .tail h' k' r' (mem_drop n r' e)
theorem each_tree {P : Hd → Fo → Prop} (step : ∀ h k, (∀ h' k', MemF h' k' k → P h' k') → P h k) : ∀ f : Fo, ∀ h k, MemF h k f → P h k
  | .nil, h, k, m => by cases m
  | .cons h' k' r', h, k, m => by
    cases m with
    | head => exact step _ _ (each_tree step _)
    | tail _ _ _ m => exact each_tree step r' h k m
theorem all_trees {P : Hd → Fo → Prop} (step : ∀ h k, (∀ h' k', MemF h' k' k → P h' k') → P h k) (h : Hd) (k : Fo) : P h k := each_tree step (.cons h k .nil) h k (.head _)

/-- What counts of a node. -/
def sameH (a b : Hd) : Bool := a.kind == b.kind && (a.form == b.form && a.text.data.toList == b.text.data.toList)
def sameF : Fo → Fo → Bool
  | .nil, .nil => true
  | .cons a k r, .cons b l q => (sameH a b && sameF k l) && sameF r q
  | _, _ => false
def tokH (h : Hd) : Tk := ⟨h.form, h.text, h.line, h.col⟩
def leavesF : Fo → List Tk
  | .nil => []
  | .cons h k r => (if h.kind = 1 then [tokH h] else leavesF k) ++ leavesF r
theorem sameF_len : ∀ {a b : Fo}, sameF a b = true → len a = len b
  | .nil, .nil, _ => rfl
  | .nil, .cons _ _ _, h => by cases h
  | .cons _ _ _, .nil, h => by cases h
  | .cons a k r, .cons b l q, h => by
    simp only [sameF, Bool.and_eq_true] at h
    simp only [len]
    rw [sameF_len h.2]
theorem sameH_self (a : Hd) : sameH a a = true := by simp [sameH]
end Go.Proofs.YtmgclgojmckfhaaGreatDoor.Tre
/-
  The texts of trees, and what is read of a text: numbers, quoted texts. No program is run here.
-/
namespace Go.Proofs.YtmgclgojmckfhaaGreatDoor.Tre
open Tks Go.RowKit
set_option linter.unusedSimpArgs false
set_option linter.unusedVariables false

def byte (n : Nat) : UInt8 := UInt8.ofNat n
def isDig (c : UInt8) : Bool := decide (48 ≤ c.toNat) && decide (c.toNat ≤ 57)
/-- A half of a byte that is written as a digit; 16: it is none. -/
def halfL (c : UInt8) : Nat := if isDig c = true then c.toNat - 48 else if 97 ≤ c.toNat ∧ c.toNat ≤ 102 then c.toNat - 87 else 16
/-- Which bytes stand for themselves. -/
def plainB (c : UInt8) : Bool := decide (32 ≤ c.toNat) && (decide (c.toNat ≤ 126) && (c.toNat != 34 && c.toNat != 92))
/-- What stands in quotes, the first one having been passed, and what follows. -/
def txtL : List UInt8 → Option (List UInt8 × List UInt8)
  | [] => none
  | [c] => if c.toNat = 34 then some ([], []) else none
  | [c, d] => if c.toNat = 34 then some ([], [d]) else if plainB c = true then (txtL [d]).map (fun p => (c :: p.1, p.2)) else none
  | c :: a :: b :: r =>
    if c.toNat = 34 then some ([], a :: b :: r)
    else if plainB c = true then (txtL (a :: b :: r)).map (fun p => (c :: p.1, p.2))
    else if c.toNat = 92 ∧ halfL a < 16 ∧ halfL b < 16 ∧ plainB (byte (halfL a * 16 + halfL b)) = false then (txtL r).map (fun p => (byte (halfL a * 16 + halfL b) :: p.1, p.2))
    else none
end Go.Proofs.YtmgclgojmckfhaaGreatDoor.Tre
/-
  What is written of a tree, and what is read of a text: the one undoes the other. No program is run here.
-/
namespace Go.Proofs.YtmgclgojmckfhaaGreatDoor.Tre
open Tks Go.RowKit
set_option linter.unusedSimpArgs false
set_option linter.unusedVariables false

def hd0 (kind form : Int) (t : ByteArray) : Hd := ⟨kind, form, t, 0, 0⟩
end Go.Proofs.YtmgclgojmckfhaaGreatDoor.Tre
/-
  Trees as they lie in memory. No program is run here.
-/
namespace Go.Proofs.YtmgclgojmckfhaaGreatDoor.Tre
open Tks Go.RowKit
set_option linter.unusedSimpArgs false
set_option linter.unusedVariables false

/-- A row of trees lies in block b from the cell off on. -/
def FoIn (w : World) : Fo → Nat → Nat → Prop
  | .nil, _, _ => True
  | .cons h k r, b, off =>
    (∃ vk, w.cell? ⟨b, off, none⟩ = some (.int .i64 h.kind) ∧ w.cell? ⟨b, off + 1, none⟩ = some (.int .i64 h.form) ∧ w.cell? ⟨b, off + 2, none⟩ = some (.string h.text) ∧ w.cell? ⟨b, off + 3, none⟩ = some (.int .i64 h.line) ∧ w.cell? ⟨b, off + 4, none⟩ = some (.int .i64 h.col) ∧ w.cell? ⟨b, off + 5, none⟩ = some vk ∧
      ((k = .nil ∧ ∃ a c, vk = .slice a 0 c) ∨ ∃ b2 off2 c, vk = .slice (some ⟨b2, off2, none⟩) (len k) c ∧ len k ≤ maxLen ∧ b2 < w.heap.size ∧ FoIn w k b2 off2)) ∧
    FoIn w r b (off + 6)
/-- The row of kids that a slice holds. -/
def KArg (w : World) (v : Value) (k : Fo) : Prop :=
  (k = .nil ∧ ∃ a c, v = .slice a 0 c) ∨ ∃ b off c, v = .slice (some ⟨b, off, none⟩) (len k) c ∧ len k ≤ maxLen ∧ b < w.heap.size ∧ FoIn w k b off
def ndV (h : Hd) (vk : Value) : Value := .agg #[.int .i64 h.kind, .int .i64 h.form, .string h.text, .int .i64 h.line, .int .i64 h.col, vk]
/-- The tree that a value is. -/
def NdArg (w : World) (v : Value) (h : Hd) (k : Fo) : Prop := ∃ vk, v = ndV h vk ∧ KArg w vk k
theorem KArg.len {w : World} {v : Value} {k : Fo} (h : KArg w v k) : ∃ a c, v = .slice a (len k) c := by
  rcases h with ⟨rfl, a, c, rfl⟩ | ⟨b, off, c, rfl, _⟩
  · exact ⟨a, c, rfl⟩
  · exact ⟨_, c, rfl⟩
theorem KArg.max {w : World} {v : Value} {k : Fo} (h : KArg w v k) : Tre.len k ≤ maxLen := by
  rcases h with ⟨rfl, a, c, rfl⟩ | ⟨b, off, c, rfl, h, _⟩
  · exact Nat.zero_le _
  · exact h
theorem KArg.nil (w : World) (a : Option Addr) (c : Nat) : KArg w (.slice a 0 c) .nil := .inl ⟨rfl, a, c, rfl⟩
theorem FoIn.kept {w w' : World} {B : Nat} (hb : Below B w w') (hB : w.heap.size ≤ B) : ∀ (f : Fo) (b off : Nat), b < w.heap.size → FoIn w f b off → FoIn w' f b off
  | .nil, _, _, _, _ => trivial
  | .cons h k r, b, off, hlt, ⟨⟨vk, c0, c1, c2, c3, c4, c5, hk⟩, hr⟩ => by
    have hc : ∀ o, w'.cell? ⟨b, o, none⟩ = w.cell? ⟨b, o, none⟩ := fun o => World.cell?_of_block (hb.block b (Nat.lt_of_lt_of_le hlt hB))
    refine ⟨⟨vk, (hc _).trans c0, (hc _).trans c1, (hc _).trans c2, (hc _).trans c3, (hc _).trans c4, (hc _).trans c5, ?_⟩, FoIn.kept hb hB r b (off + 6) hlt hr⟩
    rcases hk with h1 | ⟨b2, off2, c, e, hm, h1, h2⟩
    · exact .inl h1
    · exact .inr ⟨b2, off2, c, e, hm, Nat.lt_of_lt_of_le h1 hb.size, FoIn.kept hb hB k b2 off2 h1 h2⟩
theorem KArg.below {w w' : World} {v : Value} {k : Fo} {B : Nat} (h : KArg w v k) (hb : Below B w w') (hB : w.heap.size ≤ B) : KArg w' v k := by
  rcases h with h | ⟨b, off, c, e, hm, h1, h2⟩
  · exact .inl h
  · exact .inr ⟨b, off, c, e, hm, Nat.lt_of_lt_of_le h1 hb.size, FoIn.kept hb hB k b off h1 h2⟩
theorem NdArg.below {w w' : World} {v : Value} {h : Hd} {k : Fo} {B : Nat} (hn : NdArg w v h k) (hb : Below B w w') (hB : w.heap.size ≤ B) : NdArg w' v h k := by
  obtain ⟨vk, e, hk⟩ := hn
  exact ⟨vk, e, hk.below hb hB⟩
theorem FoIn.at {w : World} {b : Nat} : ∀ (n : Nat) (f : Fo) (off : Nat), FoIn w f b off → FoIn w (dropF n f) b (off + n * 6)
  | 0, f, off, h => by
    have e : dropF 0 f = f := by cases f <;> rfl
    rw [e, Nat.zero_mul, Nat.add_zero]
    exact h
  | n + 1, .nil, off, h => trivial
  | n + 1, .cons h k r, off, hf => by
    have := FoIn.at n r (off + 6) hf.2
    have e : off + 6 + n * 6 = off + (n + 1) * 6 := by omega
    rw [e] at this
    exact this
/-- The tree at a place of a row. -/
theorem FoIn.six {w : World} {b : Nat} {f : Fo} {off : Nat} (hf : FoIn w f b off) {n : Nat} {h : Hd} {k : Fo} (e : dropF n f = .cons h k (dropF (n + 1) f)) :
    ∃ vk, w.cell? ⟨b, off + n * 6, none⟩ = some (.int .i64 h.kind) ∧ w.cell? ⟨b, off + n * 6 + 1, none⟩ = some (.int .i64 h.form) ∧ w.cell? ⟨b, off + n * 6 + 2, none⟩ = some (.string h.text) ∧ w.cell? ⟨b, off + n * 6 + 3, none⟩ = some (.int .i64 h.line) ∧ w.cell? ⟨b, off + n * 6 + 4, none⟩ = some (.int .i64 h.col) ∧ w.cell? ⟨b, off + n * 6 + 5, none⟩ = some vk ∧ KArg w vk k := by
  have h1 := FoIn.at n f off hf
  rw [e] at h1
  exact h1.1
/-- A node in a block of its own. -/
def ndO (h : Hd) (vk : Value) : Obj := .cells #[.int .i64 h.kind, .int .i64 h.form, .string h.text, .int .i64 h.line, .int .i64 h.col, vk] 30
/-- A block lies there. -/
def Lies (W : World) (B : Nat) (o : Obj) : Prop := W.heap[B]? = some o
theorem Lies.new (W : World) (o : Obj) : Lies (W.alloc o) W.heap.size o := heap_alloc_new W o
theorem Lies.lt {W : World} {B : Nat} {o : Obj} (h : Lies W B o) : B < W.heap.size := (Array.getElem?_eq_some_iff.1 h).1
theorem Lies.below {W W' : World} {B C : Nat} {o : Obj} (h : Lies W B o) (hb : Below C W W') (hB : B < C) : Lies W' B o := (hb.block B hB).trans h
theorem Lies.alloc {W : World} {B : Nat} {o : Obj} (h : Lies W B o) (p : Obj) : Lies (W.alloc p) B o := h.below ((Below.refl W.heap.size W).alloc (Nat.le_refl _) p) h.lt
theorem Lies.cell {W : World} {B : Nat} {cs : Array Value} {t : TypeId} {fr : Nat × Nat} (h : Lies W B (.cells cs t fr)) (j : Nat) : W.cell? ⟨B, j, none⟩ = cs[j]? := cell_of_row _ _ _ _ _ _ h
theorem Lies.node {W : World} {B : Nat} {h : Hd} {vk : Value} (q : Lies W B (ndO h vk)) :
    W.cell? ⟨B, 0, none⟩ = some (.int .i64 h.kind) ∧ W.cell? ⟨B, 1, none⟩ = some (.int .i64 h.form) ∧ W.cell? ⟨B, 2, none⟩ = some (.string h.text) ∧ W.cell? ⟨B, 3, none⟩ = some (.int .i64 h.line) ∧ W.cell? ⟨B, 4, none⟩ = some (.int .i64 h.col) ∧ W.cell? ⟨B, 5, none⟩ = some vk :=
  ⟨(Lies.cell q 0).trans rfl, (Lies.cell q 1).trans rfl, (Lies.cell q 2).trans rfl, (Lies.cell q 3).trans rfl, (Lies.cell q 4).trans rfl, (Lies.cell q 5).trans rfl⟩
theorem afterL {w a b : World} (h : Below w.heap.size w a) (k : Below a.heap.size a b) : Below w.heap.size w b := h.trans (k.mono h.size)
theorem two_lie (w : World) (o1 o2 : Obj) : Lies ((w.alloc o1).alloc o2) w.heap.size o1 ∧ Lies ((w.alloc o1).alloc o2) (w.heap.size + 1) o2 := by
  refine ⟨(Lies.new w o1).alloc o2, ?_⟩
  have := Lies.new (w.alloc o1) o2
  rwa [World.size_alloc] at this
theorem below_one (w : World) (o1 : Obj) : Below w.heap.size w (w.alloc o1) := (Below.refl _ _).alloc (Nat.le_refl _) o1
theorem bdrew {n : Nat} {W W' : World} (h : Below n W W') : Below n W W'.drew := ⟨h.os, h.tape, h.output, h.size, h.block⟩
theorem gen_world {c : Code} {Q : Exit → Act → World → Prop} {a : Act} {W : World} (P : World → Prop) (h : P W) (k : ∀ X, P X → c.wp Tryz.prog Q a X) : c.wp Tryz.prog Q a W := k _ h
theorem idx_max (k n : Nat) (hk : k < n) (hn : n ≤ maxLen) : IntKind.i64.wrap ((k : Int) + 1) = (k : Int) + 1 ∧ wrap64 ((k : Int) + 1) = (k : Int) + 1 := by
  unfold maxLen at hn
  have e : wrap64 ((k : Int) + 1) = (k : Int) + 1 := IntWalk.wrap64_in _ ⟨by omega, by omega⟩
  exact ⟨by rw [IntWalk.i64_left]; exact e, e⟩
end Go.Proofs.YtmgclgojmckfhaaGreatDoor.Tre
/-
  The document's own Same of trees. No condition.
-/
namespace Go.Proofs.YtmgclgojmckfhaaGreatDoor.Tre
open Tks Go.RowKit
set_option linter.unusedSimpArgs false
set_option linter.unusedVariables false

theorem undrew {W W' : World} (h : Below W.drew.heap.size W.drew W') : Below W.heap.size W W' := ⟨h.os, h.tape, h.output, h.size, h.block⟩
theorem below_two' (w : World) (o1 o2 : Obj) : Below w.heap.size w ((w.alloc o1).alloc o2) := afterL (below_one w o1) (below_one _ o2)
theorem sameF_lens {k l : Fo} (h : len k ≠ len l) : sameF k l = false := by
  cases e : sameF k l with
  | false => rfl
  | true => exact absurd (sameF_len e) h
end Go.Proofs.YtmgclgojmckfhaaGreatDoor.Tre
/-
  The document's own Size, Depth and Right of trees. Conditions: at most 2^40 nodes (Size, Depth); none (Right).
-/
namespace Go.Proofs.YtmgclgojmckfhaaGreatDoor.Tre
open Tks Go.RowKit
set_option linter.unusedSimpArgs false
set_option linter.unusedVariables false

theorem drop_zero (f : Fo) : dropF 0 f = f := by cases f <;> rfl
end Go.Proofs.YtmgclgojmckfhaaGreatDoor.Tre
/-
  The document's own Right of trees. No condition.
-/
namespace Go.Proofs.YtmgclgojmckfhaaGreatDoor.Tre
open Tks Go.RowKit
set_option linter.unusedSimpArgs false
set_option linter.unusedVariables false

end Go.Proofs.YtmgclgojmckfhaaGreatDoor.Tre
/-
  Rows of bytes that a call owns; the document's digits. Conditions: numbers below 100.
-/
namespace Go.Proofs.YtmgclgojmckfhaaGreatDoor.Tre
open Tks Go.RowKit
set_option linter.unusedSimpArgs false
set_option linter.unusedVariables false

theorem grown_of_below {w w' : World} (h : Below w.heap.size w w') : w.grownBy w' none := ⟨h.os, h.tape, h.output, h.size, fun k hk _ => h.block k hk⟩
/-- A row of bytes in memory of the call's own. -/
def Bytes (w : World) (base : Nat) (v : Value) (l : List UInt8) : Prop := w.ownsRow base 5 1 v l.length (Lib.byteCells l)
theorem Bytes.text {w : World} {base : Nat} {v : Value} {l : List UInt8} (h : Bytes w base v l) : (convert 69 9 v).run Tryz.prog w = .ok (.string ⟨l.toArray⟩) w := by
  have h2 := h.2
  rcases h2 with ⟨rfl, h0⟩ | ⟨g, cap, cur, rfl, _, hg, _, _, _, htk⟩
  · obtain rfl : l = [] := List.eq_nil_of_length_eq_zero h0
    exact Lib.run_convert_nil_bytes w _ _ _ 0 Tryz.underlying69 Tryz.underlying5 Tryz.underlying9
  · refine run_convert_bytes_back w _ _ _ _ cap l Tryz.underlying69 Tryz.underlying5 Tryz.underlying9 ?_
    exact Lib.bytes_of_row hg (by rw [Nat.mul_one] at htk; exact htk)
theorem Bytes.nil (w : World) (B : Nat) : Bytes w B (.slice none 0 0) [] := World.ownsRow_nil _ _ _ _
theorem Bytes.kept {w w' : World} {B : Nat} {v : Value} {l : List UInt8} {row : Option Nat} (h : Bytes w B v l) (hg : w.grownBy w' row) (hne : v.ownBlock = none ∨ v.ownBlock ≠ row) : Bytes w' B v l := World.ownsRow.kept h hg hne
theorem Bytes.below {w w' : World} {B : Nat} {v : Value} {l : List UInt8} (h : Bytes w B v l) (hb : Below w.heap.size w w') : Bytes w' B v l := by
  rcases h.2 with ⟨rfl, -⟩ | ⟨g, cap, cur, rfl, -⟩
  · exact h.kept (grown_of_below hb) (.inl rfl)
  · exact h.kept (grown_of_below hb) (.inr (by simp [Value.ownBlock]))
theorem Bytes.less {w : World} {A B : Nat} {v : Value} {l : List UInt8} (h : Bytes w B v l) (hb : A ≤ B) : Bytes w A v l :=
  ⟨h.1, h.2.imp id fun ⟨g, cap, cur, h1, h2, h3⟩ => ⟨g, cap, cur, h1, Nat.le_trans hb h2, h3⟩⟩
/-- All blocks that are no rows of bytes are as they were. -/
structure Nb (w w' : World) : Prop where
  size : w.heap.size ≤ w'.heap.size
  block : ∀ (k : Nat) (o : Obj), w.heap[k]? = some o → (∀ cur fr, o ≠ Obj.cells cur 5 fr) → w'.heap[k]? = some o
theorem Nb.refl (w : World) : Nb w w := ⟨Nat.le_refl _, fun _ _ h _ => h⟩
theorem Nb.trans {a b c : World} (h : Nb a b) (k : Nb b c) : Nb a c := ⟨Nat.le_trans h.size k.size, fun j o hj ho => k.block j o (h.block j o hj ho) ho⟩
theorem Nb.of_below {w w' : World} (h : Below w.heap.size w w') : Nb w w' := ⟨h.size, fun k o hk _ => (h.block k (Array.getElem?_eq_some_iff.1 hk).1).trans hk⟩
theorem Nb.of_row {w w' : World} {B : Nat} {v : Value} {l : List UInt8} (own : Bytes w B v l) (hg : w.grownBy w' v.ownBlock) : Nb w w' := by
  refine ⟨hg.size, fun k o hk ho => (hg.block k (Array.getElem?_eq_some_iff.1 hk).1 fun e => ?_).trans hk⟩
  rcases own.2 with ⟨rfl, _⟩ | ⟨g, cap, cur, rfl, _, h2, _⟩
  · cases e
  · have e : k = g := by
      injection e
    subst e
    rw [h2] at hk
    injection hk with hk
    exact ho cur (0, 0) hk.symm
theorem Nb.node {w w' : World} (h : Nb w w') {b : Nat} {hd : Hd} {vk : Value} (hl : Lies w b (ndO hd vk)) : Lies w' b (ndO hd vk) :=
  h.block b _ hl (fun cur fr e => by
    unfold ndO at e
    injection e with _ e2
    exact absurd e2 (by decide))
end Go.Proofs.YtmgclgojmckfhaaGreatDoor.Tre
/-
  The document's own show and Show of trees that may be. Conditions: texts of at most 2^46 bytes.
-/
namespace Go.Proofs.YtmgclgojmckfhaaGreatDoor.Tre
open Tks Go.RowKit
set_option linter.unusedSimpArgs false
set_option linter.unusedVariables false

/-- The rest of a text. -/
def rest (s : ByteArray) (n : Nat) : List UInt8 := s.data.toList.drop n
theorem rest_zero (s : ByteArray) : rest s 0 = s.data.toList := rfl
theorem rest_nil (s : ByteArray) (n : Nat) (h : s.size ≤ n) : rest s n = [] := List.drop_eq_nil_of_le (by rw [Array.length_toList]; exact h)
theorem rest_cons (s : ByteArray) (n : Nat) (h : n < s.size) : rest s n = s[n] :: rest s (n + 1) := by
  unfold rest
  rw [List.drop_eq_getElem_cons (by rw [Array.length_toList]; exact h)]
  rfl
end Go.Proofs.YtmgclgojmckfhaaGreatDoor.Tre
/-
  The document's own Show of trees, and half. Conditions: texts of at most 2^46 bytes.
-/
namespace Go.Proofs.YtmgclgojmckfhaaGreatDoor.Tre
open Tks Go.RowKit
set_option linter.unusedSimpArgs false
set_option linter.unusedVariables false

end Go.Proofs.YtmgclgojmckfhaaGreatDoor.Tre
/-
  The document's own number. Conditions: texts of at most 2^46 bytes.
-/
namespace Go.Proofs.YtmgclgojmckfhaaGreatDoor.Tre
open Tks Go.RowKit
set_option linter.unusedSimpArgs false
set_option linter.unusedVariables false

theorem num_end {a b : Int} {p m n q : Nat} (h : a = b) (h2 : m = n) (h3 : p + n = q) : Ending.returned (.tuple #[.int .i64 b, .int .i64 (q : Int)]) = Ending.returned (.tuple #[.int .i64 a, .int .i64 ((p + m : Nat) : Int)]) := by
  rw [h, h2, h3]
end Go.Proofs.YtmgclgojmckfhaaGreatDoor.Tre
/-
  The document's own text. Conditions: texts of at most 2^46 bytes.
-/
namespace Go.Proofs.YtmgclgojmckfhaaGreatDoor.Tre
open Tks Go.RowKit
set_option linter.unusedSimpArgs false
set_option linter.unusedVariables false

theorem rest_len (s : ByteArray) (n : Nat) : (rest s n).length = s.size - n := by
  unfold rest
  rw [List.length_drop, Array.length_toList]
  rfl
end Go.Proofs.YtmgclgojmckfhaaGreatDoor.Tre
/-
  Rows of trees that a call owns, and where their kids lie. No program is run here.
-/
namespace Go.Proofs.YtmgclgojmckfhaaGreatDoor.Tre
open Tks Go.RowKit
set_option linter.unusedSimpArgs false
set_option linter.unusedVariables false

theorem infoNd : (Tryz.prog.info? 30).map (fun i => (i.zero, i.size, i.bytes)) = some (some (.agg #[.int .i64 0, .int .i64 0, .string ⟨#[]⟩, .int .i64 0, .int .i64 0, .slice none 0 0]), 6, 72) := by kernel_rfl
/-- A tree of a row that the call owns: its head, its kids, and the slice that holds these. -/
structure Nv where
  h : Hd
  k : Fo
  v : Value
def ndC (x : Nv) : List Value := [.int .i64 x.h.kind, .int .i64 x.h.form, .string x.h.text, .int .i64 x.h.line, .int .i64 x.h.col, x.v]
theorem nd_len (x : Nv) : (ndC x).length = 6 := rfl
def foL : List Nv → Fo
  | [] => .nil
  | x :: r => .cons x.h x.k (foL r)
theorem len_foL : ∀ l : List Nv, len (foL l) = l.length
  | [] => rfl
  | x :: r => by
    show len (foL r) + 1 = r.length + 1
    rw [len_foL r]
def appF : Fo → Fo → Fo
  | .nil, g => g
  | .cons h k r, g => .cons h k (appF r g)
/-- A row of trees lies there, all its kids in blocks of which P holds. -/
def FoOn (w : World) (P : Nat → Prop) : Fo → Nat → Nat → Prop
  | .nil, _, _ => True
  | .cons h k r, b, off =>
    (∃ vk, w.cell? ⟨b, off, none⟩ = some (.int .i64 h.kind) ∧ w.cell? ⟨b, off + 1, none⟩ = some (.int .i64 h.form) ∧ w.cell? ⟨b, off + 2, none⟩ = some (.string h.text) ∧ w.cell? ⟨b, off + 3, none⟩ = some (.int .i64 h.line) ∧ w.cell? ⟨b, off + 4, none⟩ = some (.int .i64 h.col) ∧ w.cell? ⟨b, off + 5, none⟩ = some vk ∧
      ((k = .nil ∧ ∃ a c, vk = .slice a 0 c) ∨ ∃ b2 off2 c, vk = .slice (some ⟨b2, off2, none⟩) (len k) c ∧ len k ≤ maxLen ∧ b2 < w.heap.size ∧ P b2 ∧ FoOn w P k b2 off2)) ∧
    FoOn w P r b (off + 6)
def KOn (w : World) (P : Nat → Prop) (v : Value) (k : Fo) : Prop :=
  (k = .nil ∧ ∃ a c, v = .slice a 0 c) ∨ ∃ b off c, v = .slice (some ⟨b, off, none⟩) (len k) c ∧ len k ≤ maxLen ∧ b < w.heap.size ∧ P b ∧ FoOn w P k b off
theorem FoOn.in {w : World} {P : Nat → Prop} : ∀ (f : Fo) (b off : Nat), FoOn w P f b off → FoIn w f b off
  | .nil, _, _, _ => trivial
  | .cons h k r, b, off, ⟨⟨vk, c0, c1, c2, c3, c4, c5, hk⟩, hr⟩ => by
    refine ⟨⟨vk, c0, c1, c2, c3, c4, c5, ?_⟩, FoOn.in r b (off + 6) hr⟩
    rcases hk with h1 | ⟨b2, off2, c, e, hm, h1, _, h2⟩
    · exact .inl h1
    · exact .inr ⟨b2, off2, c, e, hm, h1, FoOn.in k b2 off2 h2⟩
theorem KOn.arg {w : World} {P : Nat → Prop} {v : Value} {k : Fo} (h : KOn w P v k) : KArg w v k := by
  rcases h with h | ⟨b, off, c, e, hm, h1, _, h2⟩
  · exact .inl h
  · exact .inr ⟨b, off, c, e, hm, h1, h2.in⟩
theorem KOn.nil (w : World) (P : Nat → Prop) (a : Option Addr) (c : Nat) : KOn w P (.slice a 0 c) .nil := .inl ⟨rfl, a, c, rfl⟩
theorem FoOn.kept {w w' : World} {P P' : Nat → Prop} (hs : w.heap.size ≤ w'.heap.size) (hk : ∀ b, b < w.heap.size → P b → w'.heap[b]? = w.heap[b]? ∧ P' b) : ∀ (f : Fo) (b off : Nat), w'.heap[b]? = w.heap[b]? → FoOn w P f b off → FoOn w' P' f b off
  | .nil, _, _, _, _ => trivial
  | .cons h k r, b, off, hb, ⟨⟨vk, c0, c1, c2, c3, c4, c5, hq⟩, hr⟩ => by
    have hc : ∀ o, w'.cell? ⟨b, o, none⟩ = w.cell? ⟨b, o, none⟩ := fun o => World.cell?_of_block hb
    refine ⟨⟨vk, (hc _).trans c0, (hc _).trans c1, (hc _).trans c2, (hc _).trans c3, (hc _).trans c4, (hc _).trans c5, ?_⟩, FoOn.kept hs hk r b (off + 6) hb hr⟩
    rcases hq with h1 | ⟨b2, off2, c, e, hm, h1, hp, h2⟩
    · exact .inl h1
    · exact .inr ⟨b2, off2, c, e, hm, Nat.lt_of_lt_of_le h1 hs, (hk b2 h1 hp).2, FoOn.kept hs hk k b2 off2 (hk b2 h1 hp).1 h2⟩
theorem KOn.kept {w w' : World} {P P' : Nat → Prop} {v : Value} {k : Fo} (h : KOn w P v k) (hs : w.heap.size ≤ w'.heap.size) (hk : ∀ b, b < w.heap.size → P b → w'.heap[b]? = w.heap[b]? ∧ P' b) : KOn w' P' v k := by
  rcases h with h | ⟨b, off, c, e, hm, h1, hp, h2⟩
  · exact .inl h
  · exact .inr ⟨b, off, c, e, hm, Nat.lt_of_lt_of_le h1 hs, (hk b h1 hp).2, FoOn.kept hs hk k b off (hk b h1 hp).1 h2⟩
theorem KOn.below {w w' : World} {P : Nat → Prop} {v : Value} {k : Fo} {B : Nat} (h : KOn w P v k) (hb : Below B w w') (hB : w.heap.size ≤ B) : KOn w' P v k :=
  h.kept hb.size (fun b hlt hp => ⟨hb.block b (Nat.lt_of_lt_of_le hlt hB), hp⟩)
theorem KOn.less {w : World} {P P' : Nat → Prop} {v : Value} {k : Fo} (h : KOn w P v k) (hp : ∀ b, P b → P' b) : KOn w P' v k := h.kept (Nat.le_refl _) (fun b _ q => ⟨rfl, hp b q⟩)
theorem KOn.one {w : World} {P : Nat → Prop} {v : Value} {k : Fo} (h : KOn w P v k) : v.oneCell' = true := by
  rcases h with ⟨_, a, c, rfl⟩ | ⟨b, off, c, rfl, _⟩ <;> rfl
theorem KOn.len {w : World} {P : Nat → Prop} {v : Value} {k : Fo} (h : KOn w P v k) : ∃ a c, v = .slice a (len k) c := h.arg.len
/-- A row of trees of the call's own; the kids lie in other blocks of its own. -/
structure NdOwn (w : World) (B : Nat) (v : Value) (l : List Nv) : Prop where
  row : w.ownsRow B 30 6 v l.length (l.flatMap ndC)
  kid : ∀ x ∈ l, KOn w (fun b => B ≤ b ∧ v.ownBlock ≠ some b) x.v x.k
theorem NdOwn.nil (w : World) (B : Nat) : NdOwn w B (.slice none 0 0) [] := ⟨World.ownsRow_nil _ _ _ _, fun x hx => by cases hx⟩
theorem NdOwn.slice {w : World} {B : Nat} {v : Value} {l : List Nv} (h : NdOwn w B v l) : ∃ a c, v = .slice a l.length c := own_len h.row
theorem NdOwn.below {w w' : World} {B C : Nat} {v : Value} {l : List Nv} (h : NdOwn w B v l) (hb : Below C w w') (hC : w.heap.size ≤ C) : NdOwn w' B v l := by
  have hg : w.grownBy w' none := ⟨hb.os, hb.tape, hb.output, hb.size, fun k hk _ => hb.block k (by omega)⟩
  refine ⟨?_, fun x hx => (h.kid x hx).below hb hC⟩
  rcases hv : v.ownBlock with _ | g
  · exact World.ownsRow.kept h.row hg (.inl hv)
  · exact World.ownsRow.kept h.row hg (.inr (by rw [hv]; simp))
theorem NdOwn.push {w w' : World} {B : Nat} {v v' : Value} {l : List Nv} {x : Nv} (h : NdOwn w B v l) (hx : KOn w (fun b => B ≤ b ∧ v.ownBlock ≠ some b) x.v x.k)
    (hn : w'.ownsRow B 30 6 v' (l.length + 1) (l.flatMap ndC ++ ndC x)) (hg : w.grownBy w' v.ownBlock) (ha : v'.ownBlock = v.ownBlock ∨ v'.ownBlock = some w.heap.size) : NdOwn w' B v' (l ++ [x]) := by
  refine ⟨by rw [List.length_append, List.flatMap_append]; simpa using hn, fun y hy => ?_⟩
  have hy2 : KOn w (fun b => B ≤ b ∧ v.ownBlock ≠ some b) y.v y.k := by
    rcases List.mem_append.1 hy with hy | hy
    · exact h.kid y hy
    · obtain rfl : y = x := by simpa using hy
      exact hx
  refine hy2.kept hg.size (fun b hlt hp => ⟨hg.block b hlt (fun e => hp.2 e.symm), hp.1, fun e => ?_⟩)
  rcases ha with q | q
  · exact hp.2 (q ▸ e)
  · rw [q] at e
    injection e with e
    omega
theorem fo_cells {w : World} {P : Nat → Prop} {b : Nat} : ∀ (l : List Nv) (off : Nat), (∀ (i : Nat) (x : Nv), l[i]? = some x → ∀ k : Nat, k < 6 → w.cell? ⟨b, off + i * 6 + k, none⟩ = (ndC x)[k]?) → (∀ x ∈ l, KOn w P x.v x.k) → FoOn w P (foL l) b off
  | [], _, _, _ => trivial
  | x :: r, off, hc, hk => by
    have h0 := hc 0 x rfl
    simp only [Nat.zero_mul, Nat.add_zero] at h0
    refine ⟨⟨x.v, h0 0 (by omega), h0 1 (by omega), h0 2 (by omega), h0 3 (by omega), h0 4 (by omega), h0 5 (by omega), hk x (List.mem_cons_self ..)⟩, fo_cells r (off + 6) (fun i y hy k hk6 => ?_) (fun y hy => hk y (List.mem_cons_of_mem _ hy))⟩
    have := hc (i + 1) y hy k hk6
    rw [show off + 6 + i * 6 + k = off + (i + 1) * 6 + k from by omega]
    exact this
theorem NdOwn.on {w : World} {B : Nat} {v : Value} {l : List Nv} (h : NdOwn w B v l) (hm : l.length ≤ maxLen) : KOn w (fun b => B ≤ b) v (foL l) := by
  have hr := h.row
  rcases hr.2 with ⟨rfl, h0⟩ | ⟨g, cap, cur, rfl, hb, hg, _⟩
  · obtain rfl : l = [] := List.eq_nil_of_length_eq_zero h0
    exact .inl ⟨rfl, _, _, rfl⟩
  · refine .inr ⟨g, 0, cap, by rw [len_foL], by rw [len_foL]; exact hm, lt_of_block hg, hb, fo_cells l 0 (fun i x hx k hk => ?_) (fun x hx => (h.kid x hx).less (fun b hp => hp.1))⟩
    have h0 := flat_at ndC 6 nd_len l i k x hx hk
    obtain ⟨u, hu⟩ : ∃ u, (ndC x)[k]? = some u := ⟨_, List.getElem?_eq_getElem (by rw [nd_len]; exact hk)⟩
    rw [hu] at h0 ⊢
    have := World.ownsRow.cells hr (g := g) rfl _ _ h0
    rw [add_plain] at this
    rw [Nat.zero_add]
    exact this
theorem ndC_one {w : World} {P : Nat → Prop} {x : Nv} (h : KOn w P x.v x.k) : ∀ u ∈ ndC x, u.oneCell' = true := by
  intro u hu
  simp only [ndC, List.mem_cons, List.not_mem_nil, or_false] at hu
  rcases hu with rfl | rfl | rfl | rfl | rfl | rfl <;> first | rfl | exact h.one
/-- What is read of the kids, behind those that were read. -/
def behind (a : Fo) (r : Except Int (Fo × List UInt8)) : Except Int (Fo × List UInt8) :=
  match r with
  | .error e => .error e
  | .ok (fo, q) => .ok (appF a fo, q)
end Go.Proofs.YtmgclgojmckfhaaGreatDoor.Tre
/-
  Trees in memory under stores into other blocks; what one more kid leaves behind. No program is run here.
-/
namespace Go.Proofs.YtmgclgojmckfhaaGreatDoor.Tre
open Tks Go.RowKit
set_option linter.unusedSimpArgs false
set_option linter.unusedVariables false

theorem heap_set {W : World} {p : Addr} {v : Value} {k : Nat} (h : k ≠ p.block) : (W.setCell p v).heap[k]? = W.heap[k]? := Below.heap_setCell _ _ _ _ h
def set6 (W : World) (B : Nat) (a b c d e f : Value) : World := (((((W.setCell ⟨B, 0, none⟩ a).setCell ⟨B, 1, none⟩ b).setCell ⟨B, 2, none⟩ c).setCell ⟨B, 3, none⟩ d).setCell ⟨B, 4, none⟩ e).setCell ⟨B, 5, none⟩ f
theorem set6_below {n B : Nat} {W W1 : World} (h : Below n W W1) (hB : n ≤ B) (a b c d e f : Value) : Below n W (set6 W1 B a b c d e f) :=
  (((((h.setCell (p := ⟨B, 0, none⟩) hB a).setCell (p := ⟨B, 1, none⟩) hB b).setCell (p := ⟨B, 2, none⟩) hB c).setCell (p := ⟨B, 3, none⟩) hB d).setCell (p := ⟨B, 4, none⟩) hB e).setCell (p := ⟨B, 5, none⟩) hB f
theorem set6_size (W : World) (B : Nat) (a b c d e f : Value) : (set6 W B a b c d e f).heap.size = W.heap.size := by
  unfold set6
  rw [World.size_setCell, World.size_setCell, World.size_setCell, World.size_setCell, World.size_setCell, World.size_setCell]
theorem set6_keep (W : World) {B k : Nat} (h : k ≠ B) (a b c d e f : Value) : (set6 W B a b c d e f).heap[k]? = W.heap[k]? := by
  unfold set6
  rw [heap_set h, heap_set h, heap_set h, heap_set h, heap_set h, heap_set h]
theorem KOn.set6 {W : World} {P : Nat → Prop} {v : Value} {k : Fo} (h : KOn W P v k) {B : Nat} (hP : ∀ b, P b → b ≠ B) (a b c d e f : Value) : KOn (set6 W B a b c d e f) P v k :=
  h.kept (by rw [set6_size]; exact Nat.le_refl _) (fun b hb hp => ⟨set6_keep W (hP b hp) .., hp⟩)
theorem KOn.set {W : World} {P : Nat → Prop} {v : Value} {k : Fo} (h : KOn W P v k) {p : Addr} (hP : ∀ b, P b → b ≠ p.block) (a : Value) : KOn (W.setCell p a) P v k :=
  h.kept (by rw [World.size_setCell]; exact Nat.le_refl _) (fun b hb hp => ⟨heap_set (hP b hp), hp⟩)
theorem own_set {w : World} {B size n : Nat} {e : TypeId} {v : Value} {xs : List Value} {a : Addr} (h : w.ownsRow B e size v n xs) (ha : a.block < B) (u : Value) : (w.setCell a u).ownsRow B e size v n xs :=
  ownsRow_setCell_below h ha u
theorem NdOwn.set {W : World} {B : Nat} {v : Value} {l : List Nv} (h : NdOwn W B v l) {p : Addr} (hp : p.block < B) (a : Value) : NdOwn (W.setCell p a) B v l :=
  ⟨own_set h.row hp a, fun x hx => (h.kid x hx).set (fun b hb e => by have := hb.1; omega) a⟩
theorem NdOwn.set6 {W : World} {B : Nat} {v : Value} {l : List Nv} (h : NdOwn W B v l) {b : Nat} (hp : b < B) (c0 c1 c2 c3 c4 c5 : Value) : NdOwn (set6 W b c0 c1 c2 c3 c4 c5) B v l :=
  (((((h.set (p := ⟨b, 0, none⟩) hp c0).set (p := ⟨b, 1, none⟩) hp c1).set (p := ⟨b, 2, none⟩) hp c2).set (p := ⟨b, 3, none⟩) hp c3).set (p := ⟨b, 4, none⟩) hp c4).set (p := ⟨b, 5, none⟩) hp c5
theorem Lies.other {W : World} {B : Nat} {o : Obj} (h : Lies W B o) {p : Addr} (hp : B ≠ p.block) (v : Value) : Lies (W.setCell p v) B o := (heap_set hp).trans h
theorem Lies.put {W : World} {B : Nat} {cs : Array Value} {t : TypeId} {fr : Nat × Nat} (h : Lies W B (.cells cs t fr)) (j : Nat) (u : Value) : Lies (W.setCell ⟨B, j, none⟩ u) B (.cells (cs.setIfInBounds j u) t fr) := by
  unfold Lies at h ⊢
  unfold World.setCell
  rw [Array.getElem?_modify, if_pos rfl, h]
  simp
theorem Lies.set5 {W : World} {B : Nat} {h : Hd} {vk : Value} (q : Lies W B (ndO h vk)) (v : Value) : Lies (W.setCell ⟨B, 5, none⟩ v) B (ndO h v) := Lies.put q 5 v
theorem Lies.set1 {W : World} {B : Nat} {h : Hd} {vk : Value} (q : Lies W B (ndO h vk)) (x : Int) : Lies (W.setCell ⟨B, 1, none⟩ (.int .i64 x)) B (ndO ⟨h.kind, x, h.text, h.line, h.col⟩ vk) := Lies.put q 1 _
theorem Lies.all6 {W : World} {B : Nat} {h : Hd} {vk : Value} (q : Lies W B (ndO h vk)) (g : Hd) (v : Value) : Lies (Tre.set6 W B (.int .i64 g.kind) (.int .i64 g.form) (.string g.text) (.int .i64 g.line) (.int .i64 g.col) v) B (ndO g v) := Lies.put (Lies.put (Lies.put (Lies.put (Lies.put (Lies.put q 0 _) 1 _) 2 _) 3 _) 4 _) 5 _
theorem Lies.free {W : World} {B : Nat} {cs : Array Value} {t : TypeId} (h : Lies W B (.cells cs t)) (j : Nat) : W.frozen? ⟨B, j, none⟩ = false := by simp [World.frozen?, show W.heap[B]? = _ from h]
theorem Lies.nodef {W : World} {B : Nat} {h : Hd} {vk : Value} (q : Lies W B (ndO h vk)) :
    (W.cell? ⟨B, 0, none⟩ = some (.int .i64 h.kind) ∧ W.cell? ⟨B, 1, none⟩ = some (.int .i64 h.form) ∧ W.cell? ⟨B, 2, none⟩ = some (.string h.text) ∧ W.cell? ⟨B, 3, none⟩ = some (.int .i64 h.line) ∧ W.cell? ⟨B, 4, none⟩ = some (.int .i64 h.col) ∧ W.cell? ⟨B, 5, none⟩ = some vk) ∧
    W.frozen? ⟨B, 0, none⟩ = false ∧ W.frozen? ⟨B, 1, none⟩ = false ∧ W.frozen? ⟨B, 2, none⟩ = false ∧ W.frozen? ⟨B, 3, none⟩ = false ∧ W.frozen? ⟨B, 4, none⟩ = false ∧ W.frozen? ⟨B, 5, none⟩ = false :=
  ⟨q.node, q.free 0, q.free 1, q.free 2, q.free 3, q.free 4, q.free 5⟩
theorem NdOwn.lt {w : World} {B : Nat} {v : Value} {l : List Nv} (h : NdOwn w B v l) {b : Nat} (e : v.ownBlock = some b) : B ≤ b ∧ b < w.heap.size := World.ownsRow.lt h.row b e
theorem grown_below {W w3 w : World} {C B0 : Nat} {av : Value} {acc : List Nv} (hb : Below C w W) (hC : C ≤ B0) (hB : B0 ≤ W.heap.size) (hO : NdOwn W B0 av acc) (hg : W.grownBy w3 av.ownBlock) : Below C w w3 :=
  Below.grown hb hg (by omega) (fun k hk => by have := (hO.lt hk).1; omega)
end Go.Proofs.YtmgclgojmckfhaaGreatDoor.Tre
/-
  The document's own Leaves of trees. Conditions: at most 2^40 nodes.
-/
namespace Go.Proofs.YtmgclgojmckfhaaGreatDoor.Tre
open Tks Go.RowKit
set_option linter.unusedSimpArgs false
set_option linter.unusedVariables false

def leavesN (h : Hd) (k : Fo) : List Tk := if h.kind = 1 then [tokH h] else leavesF k
theorem Own.less {w : World} {A B : Nat} {v : Value} {l : List Tk} (h : Own w B v l) (hb : A ≤ B) : Own w A v l :=
  ⟨h.1, h.2.imp id fun ⟨g, cap, cur, h1, h2, h3⟩ => ⟨g, cap, cur, h1, Nat.le_trans hb h2, h3⟩⟩
end Go.Proofs.YtmgclgojmckfhaaGreatDoor.Tre
