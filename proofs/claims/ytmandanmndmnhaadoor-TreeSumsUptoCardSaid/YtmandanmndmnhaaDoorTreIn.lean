/-
  Trees as they lie in memory. No program is run here.
-/
import Derived.Test.YtmandanmndmnhaaDoorTrePar
namespace Go.Proofs.YtmandanmndmnhaaDoor.Tre
open Tks Go.RowKit
set_option linter.unusedSimpArgs false
set_option linter.unusedVariables false

/-- A row of trees lies in block b from the cell off on. -/
def FoIn (w : World) : Fo → Nat → Nat → Prop
  | .nil, _, _ => True
  | .cons h k r, b, off =>
    (∃ vk, w.cell? ⟨b, off, none⟩ = some (.int .i64 h.kind) ∧ w.cell? ⟨b, off + 1, none⟩ = some (.int .i64 h.form) ∧ w.cell? ⟨b, off + 2, none⟩ = some (.string h.text) ∧ w.cell? ⟨b, off + 3, none⟩ = some (.int .i64 h.line) ∧ w.cell? ⟨b, off + 4, none⟩ = some (.int .i64 h.col) ∧ w.cell? ⟨b, off + 5, none⟩ = some vk ∧
      ((k = .nil ∧ ∃ a c, vk = .slice a 0 c) ∨ ∃ b2 off2 c, vk = .slice (some ⟨b2, off2, none⟩) (len k) c ∧ len k ≤ maxLen ∧ b2 < w.heap.size ∧ FoIn w k b2 off2)) ∧
    FoIn w r b (off + 6)
/-- The row of kids that a slice holds. -/
def KArg (w : World) (v : Value) (k : Fo) : Prop :=
  (k = .nil ∧ ∃ a c, v = .slice a 0 c) ∨ ∃ b off c, v = .slice (some ⟨b, off, none⟩) (len k) c ∧ len k ≤ maxLen ∧ b < w.heap.size ∧ FoIn w k b off
def ndV (h : Hd) (vk : Value) : Value := .agg #[.int .i64 h.kind, .int .i64 h.form, .string h.text, .int .i64 h.line, .int .i64 h.col, vk]
/-- The tree that a value is. -/
def NdArg (w : World) (v : Value) (h : Hd) (k : Fo) : Prop := ∃ vk, v = ndV h vk ∧ KArg w vk k
theorem KArg.len {w : World} {v : Value} {k : Fo} (h : KArg w v k) : ∃ a c, v = .slice a (len k) c := by
  rcases h with ⟨rfl, a, c, rfl⟩ | ⟨b, off, c, rfl, _⟩
  · exact ⟨a, c, rfl⟩
  · exact ⟨_, c, rfl⟩
theorem KArg.max {w : World} {v : Value} {k : Fo} (h : KArg w v k) : Tre.len k ≤ maxLen := by
  rcases h with ⟨rfl, a, c, rfl⟩ | ⟨b, off, c, rfl, h, _⟩
  · exact Nat.zero_le _
  · exact h
theorem KArg.nil (w : World) (a : Option Addr) (c : Nat) : KArg w (.slice a 0 c) .nil := .inl ⟨rfl, a, c, rfl⟩
theorem FoIn.kept {w w' : World} {B : Nat} (hb : Below B w w') (hB : w.heap.size ≤ B) : ∀ (f : Fo) (b off : Nat), b < w.heap.size → FoIn w f b off → FoIn w' f b off
  | .nil, _, _, _, _ => trivial
  | .cons h k r, b, off, hlt, ⟨⟨vk, c0, c1, c2, c3, c4, c5, hk⟩, hr⟩ => by
    have hc : ∀ o, w'.cell? ⟨b, o, none⟩ = w.cell? ⟨b, o, none⟩ := fun o => World.cell?_of_block (hb.block b (Nat.lt_of_lt_of_le hlt hB))
    refine ⟨⟨vk, (hc _).trans c0, (hc _).trans c1, (hc _).trans c2, (hc _).trans c3, (hc _).trans c4, (hc _).trans c5, ?_⟩, FoIn.kept hb hB r b (off + 6) hlt hr⟩
    rcases hk with h1 | ⟨b2, off2, c, e, hm, h1, h2⟩
    · exact .inl h1
    · exact .inr ⟨b2, off2, c, e, hm, Nat.lt_of_lt_of_le h1 hb.size, FoIn.kept hb hB k b2 off2 h1 h2⟩
theorem KArg.below {w w' : World} {v : Value} {k : Fo} {B : Nat} (h : KArg w v k) (hb : Below B w w') (hB : w.heap.size ≤ B) : KArg w' v k := by
  rcases h with h | ⟨b, off, c, e, hm, h1, h2⟩
  · exact .inl h
  · exact .inr ⟨b, off, c, e, hm, Nat.lt_of_lt_of_le h1 hb.size, FoIn.kept hb hB k b off h1 h2⟩
theorem NdArg.below {w w' : World} {v : Value} {h : Hd} {k : Fo} {B : Nat} (hn : NdArg w v h k) (hb : Below B w w') (hB : w.heap.size ≤ B) : NdArg w' v h k := by
  obtain ⟨vk, e, hk⟩ := hn
  exact ⟨vk, e, hk.below hb hB⟩
theorem FoIn.at {w : World} {b : Nat} : ∀ (n : Nat) (f : Fo) (off : Nat), FoIn w f b off → FoIn w (dropF n f) b (off + n * 6)
  | 0, f, off, h => by
    have e : dropF 0 f = f := by cases f <;> rfl
    rw [e, Nat.zero_mul, Nat.add_zero]
    exact h
  | n + 1, .nil, off, h => trivial
  | n + 1, .cons h k r, off, hf => by
    have := FoIn.at n r (off + 6) hf.2
    have e : off + 6 + n * 6 = off + (n + 1) * 6 := by omega
    rw [e] at this
    exact this
/-- The tree at a place of a row. -/
theorem FoIn.six {w : World} {b : Nat} {f : Fo} {off : Nat} (hf : FoIn w f b off) {n : Nat} {h : Hd} {k : Fo} (e : dropF n f = .cons h k (dropF (n + 1) f)) :
    ∃ vk, w.cell? ⟨b, off + n * 6, none⟩ = some (.int .i64 h.kind) ∧ w.cell? ⟨b, off + n * 6 + 1, none⟩ = some (.int .i64 h.form) ∧ w.cell? ⟨b, off + n * 6 + 2, none⟩ = some (.string h.text) ∧ w.cell? ⟨b, off + n * 6 + 3, none⟩ = some (.int .i64 h.line) ∧ w.cell? ⟨b, off + n * 6 + 4, none⟩ = some (.int .i64 h.col) ∧ w.cell? ⟨b, off + n * 6 + 5, none⟩ = some vk ∧ KArg w vk k := by
  have h1 := FoIn.at n f off hf
  rw [e] at h1
  exact h1.1
/-- A node in a block of its own. -/
def ndO (h : Hd) (vk : Value) : Obj := .cells #[.int .i64 h.kind, .int .i64 h.form, .string h.text, .int .i64 h.line, .int .i64 h.col, vk] 24
/-- A block lies there. -/
def Lies (W : World) (B : Nat) (o : Obj) : Prop := W.heap[B]? = some o
theorem Lies.new (W : World) (o : Obj) : Lies (W.alloc o) W.heap.size o := heap_alloc_new W o
theorem Lies.lt {W : World} {B : Nat} {o : Obj} (h : Lies W B o) : B < W.heap.size := (Array.getElem?_eq_some_iff.1 h).1
theorem Lies.below {W W' : World} {B C : Nat} {o : Obj} (h : Lies W B o) (hb : Below C W W') (hB : B < C) : Lies W' B o := (hb.block B hB).trans h
theorem Lies.alloc {W : World} {B : Nat} {o : Obj} (h : Lies W B o) (p : Obj) : Lies (W.alloc p) B o := h.below ((Below.refl W.heap.size W).alloc (Nat.le_refl _) p) h.lt
theorem Lies.cell {W : World} {B : Nat} {cs : Array Value} {t : TypeId} {fr : Nat × Nat} (h : Lies W B (.cells cs t fr)) (j : Nat) : W.cell? ⟨B, j, none⟩ = cs[j]? := cell_of_row _ _ _ _ _ _ h
theorem Lies.node {W : World} {B : Nat} {h : Hd} {vk : Value} (q : Lies W B (ndO h vk)) :
    W.cell? ⟨B, 0, none⟩ = some (.int .i64 h.kind) ∧ W.cell? ⟨B, 1, none⟩ = some (.int .i64 h.form) ∧ W.cell? ⟨B, 2, none⟩ = some (.string h.text) ∧ W.cell? ⟨B, 3, none⟩ = some (.int .i64 h.line) ∧ W.cell? ⟨B, 4, none⟩ = some (.int .i64 h.col) ∧ W.cell? ⟨B, 5, none⟩ = some vk :=
  ⟨(Lies.cell q 0).trans rfl, (Lies.cell q 1).trans rfl, (Lies.cell q 2).trans rfl, (Lies.cell q 3).trans rfl, (Lies.cell q 4).trans rfl, (Lies.cell q 5).trans rfl⟩
theorem afterL {w a b : World} (h : Below w.heap.size w a) (k : Below a.heap.size a b) : Below w.heap.size w b := h.trans (k.mono h.size)
theorem two_lie (w : World) (o1 o2 : Obj) : Lies ((w.alloc o1).alloc o2) w.heap.size o1 ∧ Lies ((w.alloc o1).alloc o2) (w.heap.size + 1) o2 := by
  refine ⟨(Lies.new w o1).alloc o2, ?_⟩
  have := Lies.new (w.alloc o1) o2
  rwa [World.size_alloc] at this
theorem below_one (w : World) (o1 : Obj) : Below w.heap.size w (w.alloc o1) := (Below.refl _ _).alloc (Nat.le_refl _) o1
theorem bdrew {n : Nat} {W W' : World} (h : Below n W W') : Below n W W'.drew := ⟨h.os, h.tape, h.output, h.size, h.block⟩
theorem gen_world {c : Code} {Q : Exit → Act → World → Prop} {a : Act} {W : World} (P : World → Prop) (h : P W) (k : ∀ X, P X → c.wp Tryd.prog Q a X) : c.wp Tryd.prog Q a W := k _ h
theorem idx_max (k n : Nat) (hk : k < n) (hn : n ≤ maxLen) : IntKind.i64.wrap ((k : Int) + 1) = (k : Int) + 1 ∧ wrap64 ((k : Int) + 1) = (k : Int) + 1 := by
  unfold maxLen at hn
  have e : wrap64 ((k : Int) + 1) = (k : Int) + 1 := IntWalk.wrap64_in _ ⟨by omega, by omega⟩
  exact ⟨by rw [IntWalk.i64_left]; exact e, e⟩
end Go.Proofs.YtmandanmndmnhaaDoor.Tre
