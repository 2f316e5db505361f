/-
  The program's own Size and Depth of trees: closures that call themselves. Conditions: at most 2^40 nodes.
-/
import Derived.Test.YtmgclgojmckfhaaZTreA
import Derived.Laws.EntriesVeiled
namespace Go.Proofs.Ytmgclgojmckfhaa.Tre
open Tks Go.RowKit
set_option linter.unusedSimpArgs false
set_option linter.unusedVariables false

theorem makeF (fn : Fn) (first cap : Array Value) (w : World) : (Instr.makeFunc fn first cap).run Try.prog w = .ok (.func fn first cap) w := rfl
/-- All blocks below B are as they were, but for S. -/
structure Keeps (S B : Nat) (w w' : World) : Prop where
  os : w'.os = w.os
  tape : w'.tape = w.tape
  output : w'.output = w.output
  size : w.heap.size ≤ w'.heap.size
  block : ∀ k, k < B → k ≠ S → w'.heap[k]? = w.heap[k]?
theorem Keeps.refl (S B : Nat) (w : World) : Keeps S B w w := ⟨rfl, rfl, rfl, Nat.le_refl _, fun _ _ _ => rfl⟩
theorem Keeps.trans {S B : Nat} {a b c : World} (h : Keeps S B a b) (k : Keeps S B b c) : Keeps S B a c :=
  ⟨k.os.trans h.os, k.tape.trans h.tape, k.output.trans h.output, Nat.le_trans h.size k.size, fun j hj hs => (k.block j hj hs).trans (h.block j hj hs)⟩
theorem Keeps.of_below {S B C : Nat} {w w' : World} (h : Below C w w') (hB : B ≤ C) : Keeps S B w w' := ⟨h.os, h.tape, h.output, h.size, fun k hk _ => h.block k (Nat.lt_of_lt_of_le hk hB)⟩
theorem Keeps.set {S B : Nat} {w w' : World} (h : Keeps S B w w') (j : Nat) (v : Value) : Keeps S B w (w'.setCell ⟨S, j, none⟩ v) :=
  ⟨h.os, h.tape, h.output, by rw [World.size_setCell]; exact h.size, fun k hk hs => (heap_set hs).trans (h.block k hk hs)⟩
theorem Keeps.below {S B n : Nat} {w0 w w' : World} (h : Keeps S B w w') (hb : Below n w0 w) (hS : n ≤ S) (hB : n ≤ B) : Below n w0 w' :=
  ⟨h.os.trans hb.os, h.tape.trans hb.tape, h.output.trans hb.output, Nat.le_trans hb.size h.size, fun k hk => (h.block k (by omega) (by omega)).trans (hb.block k hk)⟩
theorem Keeps.lies {S B b : Nat} {w w' : World} {o : Obj} (h : Keeps S B w w') (hl : Lies w b o) (hb : b < B) (hs : b ≠ S) : Lies w' b o := (h.block b hb hs).trans hl
/-- A cell in a block of its own. -/
def One (w : World) (b : Nat) (v : Value) (t : TypeId) : Prop := Lies w b (.cells #[v] t)
theorem One.c0 {w : World} {b : Nat} {v : Value} {t : TypeId} (h : One w b v t) : w.cell? ⟨b, 0, none⟩ = some v := (Lies.cell h 0).trans rfl
theorem One.free0 {w : World} {b : Nat} {v : Value} {t : TypeId} (h : One w b v t) : w.frozen? ⟨b, 0, none⟩ = false := Lies.free h 0
theorem One.set {w : World} {b : Nat} {v : Value} {t : TypeId} (h : One w b v t) (x : Value) : One (w.setCell ⟨b, 0, none⟩ x) b x t := Lies.put h 0 x
def fnV (K S F : Nat) : Value := .func (.func K) #[] #[.pointer (some ⟨S, 0, none⟩), .pointer (some ⟨F, 0, none⟩)]
theorem sum_wrap {n m : Nat} (h : n + m ≤ 2199023255552) : wrap64 ((n : Int) + 1) = ((n + 1 : Nat) : Int) ∨ m = 0 := by
  by_cases q : m = 0
  · exact .inr q
  · exact .inl (by rw [IntWalk.wrap64_in _ ⟨by omega, by omega⟩]; omega)
theorem wrapS {n : Nat} (h : n < 2199023255552) : wrap64 ((n : Int) + 1) = ((n + 1 : Nat) : Int) ∧ IntKind.i64.wrap ((n : Int) + 1) = ((n + 1 : Nat) : Int) := by
  have e : wrap64 ((n : Int) + 1) = ((n + 1 : Nat) : Int) := by rw [IntWalk.wrap64_in _ ⟨by omega, by omega⟩]; omega
  exact ⟨e, by rw [IntWalk.i64_left]; exact e⟩
/-- The kids of a row as they stand in a world that has kept it. -/
theorem six_in {w0 w : World} {b off : Nat} {k : Fo} (hf : FoIn w0 k b off) (hb : b < w0.heap.size) (hw : Below w0.heap.size w0 w) {n : Nat} {h1 : Hd} {k1 : Fo} (e : dropF n k = .cons h1 k1 (dropF (n + 1) k)) :
    ∃ vk, w.cell? ⟨b, off + n * 6, none⟩ = some (.int .i64 h1.kind) ∧ w.cell? ⟨b, off + n * 6 + 1, none⟩ = some (.int .i64 h1.form) ∧ w.cell? ⟨b, off + n * 6 + 2, none⟩ = some (.string h1.text) ∧ w.cell? ⟨b, off + n * 6 + 3, none⟩ = some (.int .i64 h1.line) ∧ w.cell? ⟨b, off + n * 6 + 4, none⟩ = some (.int .i64 h1.col) ∧ w.cell? ⟨b, off + n * 6 + 5, none⟩ = some vk ∧ KArg w0 vk k1 := by
  obtain ⟨vk, c0, c1, c2, c3, c4, c5, hk⟩ := hf.six e
  have hc : ∀ o, w.cell? ⟨b, o, none⟩ = w0.cell? ⟨b, o, none⟩ := fun o => World.cell?_of_block (hw.block b hb)
  exact ⟨vk, (hc _).trans c0, (hc _).trans c1, (hc _).trans c2, (hc _).trans c3, (hc _).trans c4, (hc _).trans c5, hk⟩
theorem three_lie (w : World) (o1 o2 o3 : Obj) : Lies (((w.alloc o1).alloc o2).alloc o3) w.heap.size o1 ∧ Lies (((w.alloc o1).alloc o2).alloc o3) (w.heap.size + 1) o2 ∧ Lies (((w.alloc o1).alloc o2).alloc o3) (w.heap.size + 1 + 1) o3 ∧ Below w.heap.size w (((w.alloc o1).alloc o2).alloc o3) ∧ (((w.alloc o1).alloc o2).alloc o3).heap.size = w.heap.size + 3 := by
  have h := two_lie w o1 o2
  have h3 := Lies.new ((w.alloc o1).alloc o2) o3
  rw [World.size_alloc, World.size_alloc] at h3
  exact ⟨h.1.alloc _, h.2.alloc _, h3, afterL (below_two' w o1 o2) (below_one _ o3), by rw [World.size_alloc, World.size_alloc, World.size_alloc]⟩
end Go.Proofs.Ytmgclgojmckfhaa.Tre
/-
  The program's own Depth of trees. Conditions: at most 2^40 deep.
-/
namespace Go.Proofs.Ytmgclgojmckfhaa.Tre
open Tks Go.RowKit
set_option linter.unusedSimpArgs false
set_option linter.unusedVariables false

def fn1 (K F : Nat) : Value := .func (.func K) #[] #[.pointer (some ⟨F, 0, none⟩)]
theorem One.below {w w' : World} {b B : Nat} {v : Value} {t : TypeId} (h : One w b v t) (hb : Below B w w') (hB : b < B) : One w' b v t := Lies.below h hb hB
theorem deep_all : ∀ (f : Fo) (i : Nat), deepF (dropF i f) ≤ deepF f
  | .nil, i => by
    rw [dropF_nil]
    exact Nat.le_refl _
  | .cons h k r, 0 => Nat.le_refl _
  | .cons h k r, i + 1 => by
    have := deep_all r i
    simp only [dropF, deepF]
    omega
end Go.Proofs.Ytmgclgojmckfhaa.Tre
