/-
  Rows of tokens and of comments that a call owns: what lies in them, how they grow by one. No condition but sizes.
-/
import Derived.Test.YtkehchajgdepaaaGreatDoorZMthB
import Derived.Test.YtkehchajgdepaaaGreatDoorRows
import Derived.WalkKit
import Derived.OwnWalk
import Derived.Laws.OwnMore
import Derived.Maps.AppendAt
import Derived.Deep.AppendLies
import Derived.Lib.Hide
namespace Go.Proofs.YtkehchajgdepaaaGreatDoor.Lx
open Go.RowKit Gly
set_option linter.unusedSimpArgs false
set_option linter.unusedVariables false

theorem infoTok : (Tryz.prog.info? 36).map (fun i => (i.zero, i.size, i.bytes)) = some (some (.agg #[.int .i64 0, .string ⟨#[]⟩, .int .i64 0, .int .i64 0]), 4, 40) := by kernel_rfl
theorem infoNote : (Tryz.prog.info? 39).map (fun i => (i.zero, i.size, i.bytes)) = some (some (.agg #[.string ⟨#[]⟩, .int .i64 0, .int .i64 0, .int .i64 0, .int .i64 0]), 5, 48) := by kernel_rfl
/-- A token's cells; a comment's. -/
def tokC (s : ByteArray) (t : It) : List Value := [.int .i64 t.kind, .string (txt s t), .int .i64 (lineS s t.fr), .int .i64 (colS s t.fr)]
def noteC (s : ByteArray) (n : Nt) : List Value := [.string (txt s n.it), .int .i64 ((n.gap : Nat) : Int), .int .i64 n.pl, .int .i64 (lineS s n.it.fr), .int .i64 (colS s n.it.fr)]
def Toks (s : ByteArray) (w : World) (B : Nat) (v : Value) (l : List It) : Prop := w.ownsRow B 36 4 v l.length (l.flatMap (tokC s))
def Notes (s : ByteArray) (w : World) (B : Nat) (v : Value) (l : List Nt) : Prop := w.ownsRow B 39 5 v l.length (l.flatMap (noteC s))
theorem Toks.nil (s : ByteArray) (w : World) (B : Nat) : Toks s w B (.slice none 0 0) [] := World.ownsRow_nil _ _ _ _
theorem Notes.nil (s : ByteArray) (w : World) (B : Nat) : Notes s w B (.slice none 0 0) [] := World.ownsRow_nil _ _ _ _
theorem Toks.kept {s : ByteArray} {w w' : World} {B : Nat} {v : Value} {l : List It} {row : Option Nat} (h : Toks s w B v l) (hg : w.grownBy w' row) (hne : v.ownBlock = none ∨ v.ownBlock ≠ row) : Toks s w' B v l := World.ownsRow.kept h hg hne
theorem Notes.kept {s : ByteArray} {w w' : World} {B : Nat} {v : Value} {l : List Nt} {row : Option Nat} (h : Notes s w B v l) (hg : w.grownBy w' row) (hne : v.ownBlock = none ∨ v.ownBlock ≠ row) : Notes s w' B v l := World.ownsRow.kept h hg hne
theorem below_grown {w w' : World} {B : Nat} (h : Below B w w') (hB : w.heap.size ≤ B) : w.grownBy w' none := ⟨h.os, h.tape, h.output, h.size, fun k hk _ => h.block k (by omega)⟩
theorem Toks.below {s : ByteArray} {w w' : World} {B C : Nat} {v : Value} {l : List It} (h : Toks s w B v l) (hb : Below C w w') (hC : w.heap.size ≤ C) : Toks s w' B v l := by
  rcases hv : v.ownBlock with _ | g
  · exact h.kept (below_grown hb hC) (.inl hv)
  · exact h.kept (below_grown hb hC) (.inr (by rw [hv]; simp))
theorem Notes.below {s : ByteArray} {w w' : World} {B C : Nat} {v : Value} {l : List Nt} (h : Notes s w B v l) (hb : Below C w w') (hC : w.heap.size ≤ C) : Notes s w' B v l := by
  rcases hv : v.ownBlock with _ | g
  · exact h.kept (below_grown hb hC) (.inl hv)
  · exact h.kept (below_grown hb hC) (.inr (by rw [hv]; simp))
theorem add_plain (g j : Nat) : (⟨g, 0, none⟩ : Addr).add j = ⟨g, j, none⟩ := by unfold Addr.add; split <;> simp_all
/-- append of one token, or of one comment, to a row of the call's own: the same block, or a new one. -/
theorem append_tok (s : ByteArray) (w : World) {ops : Array Oper} {rest : List Oper} {o : Oper} {a : Act} {Q : Exit → Act → World → Prop} (hg : o.guard = none) (sl x : Operand) (hop : o.op = Op.call { callee := Callee.builtin Builtin.append, args := #[sl, x], argTypes := #[23, 23] })
    (base : Nat) (v : Value) (l : List It) (hs : a.eval sl = v) (hown : Toks s w base v l) (ad : Addr) (t : It) (c : Nat) (hx : a.eval x = .slice (some ad) 1 c) (hc : ∀ (j : Nat) u, (tokC s t)[j]? = some u → w.cell? (ad.add j) = some u) (b1 : l.length + 1 ≤ 1099511627776) (hB : base ≤ w.heap.size)
    (hK : ∀ v' w', Toks s w' base v' (l ++ [t]) → w.grownBy w' v.ownBlock → (v'.ownBlock = v.ownBlock ∨ v'.ownBlock = some w.heap.size) → wpList Tryz.prog ops Q rest (a.put o.dst v') w') :
    wpList Tryz.prog ops Q (o :: rest) a w := by
  obtain ⟨i0, hi, hz0, hz1, hz2⟩ := info_parts infoTok
  refine wpList_append_own_at w hg sl x 23 hop base 36 i0 _ 4 40 Tryz.underlying23 hi hz0 hz1 hz2 rfl (by decide) v l.length (l.flatMap (tokC s)) hs hown ad 1 c (tokC s t) hx rfl hc ?_ (by unfold maxLen; omega) (by omega) hB ?_
  · intro u hu
    simp only [tokC, List.mem_cons, List.not_mem_nil, or_false] at hu
    rcases hu with rfl | rfl | rfl | rfl <;> rfl
  · intro v' w' h1 h2 _ h4
    refine hK v' w' ?_ h2 h4
    unfold Toks
    rw [List.length_append, List.flatMap_append]
    simpa using h1
theorem append_note (s : ByteArray) (w : World) {ops : Array Oper} {rest : List Oper} {o : Oper} {a : Act} {Q : Exit → Act → World → Prop} (hg : o.guard = none) (sl x : Operand) (hop : o.op = Op.call { callee := Callee.builtin Builtin.append, args := #[sl, x], argTypes := #[24, 24] })
    (base : Nat) (v : Value) (l : List Nt) (hs : a.eval sl = v) (hown : Notes s w base v l) (ad : Addr) (t : Nt) (c : Nat) (hx : a.eval x = .slice (some ad) 1 c) (hc : ∀ (j : Nat) u, (noteC s t)[j]? = some u → w.cell? (ad.add j) = some u) (b1 : l.length + 1 ≤ 1099511627776) (hB : base ≤ w.heap.size)
    (hK : ∀ v' w', Notes s w' base v' (l ++ [t]) → w.grownBy w' v.ownBlock → (v'.ownBlock = v.ownBlock ∨ v'.ownBlock = some w.heap.size) → wpList Tryz.prog ops Q rest (a.put o.dst v') w') :
    wpList Tryz.prog ops Q (o :: rest) a w := by
  obtain ⟨i0, hi, hz0, hz1, hz2⟩ := info_parts infoNote
  refine wpList_append_own_at w hg sl x 24 hop base 39 i0 _ 5 48 Tryz.underlying24 hi hz0 hz1 hz2 rfl (by decide) v l.length (l.flatMap (noteC s)) hs hown ad 1 c (noteC s t) hx rfl hc ?_ (by unfold maxLen; omega) (by omega) hB ?_
  · intro u hu
    simp only [noteC, List.mem_cons, List.not_mem_nil, or_false] at hu
    rcases hu with rfl | rfl | rfl | rfl | rfl <;> rfl
  · intro v' w' h1 h2 _ h4
    refine hK v' w' ?_ h2 h4
    unfold Notes
    rw [List.length_append, List.flatMap_append]
    simpa using h1

/-! ### The last comment's place -/

theorem flat_at {α : Type} (f : α → List Value) (k : Nat) (hf : ∀ x, (f x).length = k) : ∀ (l : List α) (i j : Nat) (x : α), l[i]? = some x → j < k → (l.flatMap f)[i * k + j]? = (f x)[j]?
  | [], i, j, x, h, _ => by simp at h
  | y :: l, 0, j, x, h, hj => by
    simp at h
    subst h
    rw [List.flatMap_cons, Nat.zero_mul, Nat.zero_add, List.getElem?_append_left (by rw [hf]; exact hj)]
  | y :: l, i + 1, j, x, h, hj => by
    have := flat_at f k hf l i j x (by simpa using h) hj
    rw [List.flatMap_cons, List.getElem?_append_right (by rw [hf, Nat.succ_mul]; omega), hf, Nat.succ_mul, show i * k + k + j - k = i * k + j by omega]
    exact this
theorem flat_len {α : Type} (f : α → List Value) (k : Nat) (hf : ∀ x, (f x).length = k) : ∀ l : List α, (l.flatMap f).length = l.length * k
  | [] => by simp
  | y :: l => by rw [List.flatMap_cons, List.length_append, hf, flat_len f k hf l, List.length_cons, Nat.succ_mul, Nat.add_comm]
theorem noteC_len (s : ByteArray) (n : Nt) : (noteC s n).length = 5 := rfl
theorem tokC_len (s : ByteArray) (t : It) : (tokC s t).length = 4 := rfl
theorem flat_setLast (s : ByteArray) (x : Int) (m : Nt) (l : List Nt) : (setLast x (l ++ [m])).flatMap (noteC s) = ((l ++ [m]).flatMap (noteC s)).set (l.length * 5 + 2) (.int .i64 x) := by
  rw [setLast_app, List.flatMap_append, List.flatMap_append, List.set_append_right _ _ (by rw [flat_len _ 5 (noteC_len s)]; omega), flat_len _ 5 (noteC_len s), show l.length * 5 + 2 - l.length * 5 = 2 by omega]
  congr 1
/-- A row's block, and a cell of it. -/
theorem Notes.form {s : ByteArray} {w : World} {B : Nat} {v : Value} {l : List Nt} (h : Notes s w B v l) (hn : 0 < l.length) : ∃ g cap, v = .slice (some ⟨g, 0, none⟩) l.length cap ∧ B ≤ g ∧ g < w.heap.size := World.ownsRow.form h hn
theorem Toks.form {s : ByteArray} {w : World} {B : Nat} {v : Value} {l : List It} (h : Toks s w B v l) (hn : 0 < l.length) : ∃ g cap, v = .slice (some ⟨g, 0, none⟩) l.length cap ∧ B ≤ g ∧ g < w.heap.size := World.ownsRow.form h hn
theorem Toks.cell {s : ByteArray} {w : World} {B g n cap : Nat} {l : List It} (h : Toks s w B (.slice (some ⟨g, 0, none⟩) n cap) l) (i j : Nat) (t : It) (ht : l[i]? = some t) (hj : j < 4) : w.cell? ⟨g, i * 4 + j, none⟩ = (tokC s t)[j]? := by
  have h0 := flat_at (tokC s) 4 (tokC_len s) l i j t ht hj
  obtain ⟨u, hu⟩ : ∃ u, (tokC s t)[j]? = some u := ⟨_, List.getElem?_eq_getElem (by rw [tokC_len]; exact hj)⟩
  rw [hu] at h0 ⊢
  have := World.ownsRow.cells h (g := g) rfl _ _ h0
  rw [add_plain] at this
  exact this
theorem Notes.cell {s : ByteArray} {w : World} {B g n cap : Nat} {l : List Nt} (h : Notes s w B (.slice (some ⟨g, 0, none⟩) n cap) l) (i j : Nat) (t : Nt) (ht : l[i]? = some t) (hj : j < 5) : w.cell? ⟨g, i * 5 + j, none⟩ = (noteC s t)[j]? := by
  have h0 := flat_at (noteC s) 5 (noteC_len s) l i j t ht hj
  obtain ⟨u, hu⟩ : ∃ u, (noteC s t)[j]? = some u := ⟨_, List.getElem?_eq_getElem (by rw [noteC_len]; exact hj)⟩
  rw [hu] at h0 ⊢
  have := World.ownsRow.cells h (g := g) rfl _ _ h0
  rw [add_plain] at this
  exact this
/-- The last comment told where it stands: one cell is written. -/
theorem Notes.set {s : ByteArray} {w : World} {B g cap : Nat} {l : List Nt} (h : Notes s w B (.slice (some ⟨g, 0, none⟩) l.length cap) l) (hl : 0 < l.length) (x : Int) : Notes s (w.setCell ⟨g, (l.length - 1) * 5 + 2, none⟩ (.int .i64 x)) B (.slice (some ⟨g, 0, none⟩) l.length cap) (setLast x l) := by
  rcases List.eq_nil_or_concat l with rfl | ⟨r, m, hrm⟩
  · simp at hl
  · rw [List.concat_eq_append] at hrm
    subst hrm
    have e : (r ++ [m]).length = r.length + 1 := by simp
    have := World.ownsRow.stored h ((r ++ [m]).length - 1 |>.mul 5 |>.add 2) (.int .i64 x)
    unfold Notes
    rw [setLast_len, flat_setLast]
    have e2 : ((r ++ [m]).length - 1) * 5 + 2 = r.length * 5 + 2 := by omega
    rw [e2]
    have e3 : ((r ++ [m]).length - 1 |>.mul 5 |>.add 2) = r.length * 5 + 2 := by
      show ((r ++ [m]).length - 1) * 5 + 2 = _
      exact e2
    rw [e3] at this
    exact this.1
theorem setCell_other {w : World} {k : Nat} {a : Addr} {o : Obj} {u : Value} (h : w.heap[k]? = some o) (hk : k ≠ a.block) : (w.setCell a u).heap[k]? = some o := by
  rw [Below.heap_setCell _ _ _ _ hk]
  exact h
end Go.Proofs.YtkehchajgdepaaaGreatDoor.Lx
