/-
  A row of bytes in memory of the call's own, and what is appended to it.
-/
import Derived.Test.YtdppfhgihoibnaaDoorQtSam
import Derived.Lib.AppendStr
import Derived.Lib.BufferRead
import Derived.ArgAppend
namespace Go.Proofs.YtdppfhgihoibnaaDoor.Qt
open Go.RowKit Gly
set_option linter.unusedSimpArgs false
set_option linter.unusedVariables false

theorem infoByte : (Tryd.prog.info? 5).map (fun i => (i.zero, i.size, i.bytes)) = some (some (.int .u8 0), 1, 1) := by kernel_rfl
/-- A row of bytes in memory of the call's own. -/
def Bytes (w : World) (base : Nat) (v : Value) (l : List UInt8) : Prop := w.ownsRow base 5 1 v l.length (Lib.byteCells l)
theorem Bytes.cat {w : World} {base : Nat} {v : Value} {l ys : List UInt8} (h : w.ownsRow base 5 1 v (l.length + ys.length) (Lib.byteCells l ++ Lib.byteCells ys)) : Bytes w base v (l ++ ys) := by
  unfold Bytes
  rw [List.length_append, Lib.byteCells_append]
  exact h
theorem Bytes.cats {w : World} {base : Nat} {v : Value} {l : List UInt8} {x : ByteArray} (h : w.ownsRow base 5 1 v (l.length + x.size) (Lib.byteCells l ++ Lib.strCells x)) : Bytes w base v (l ++ x.data.toList) := by
  unfold Bytes
  rw [List.length_append, Lib.byteCells_append, ← Lib.size_eq, ← Lib.strCells_eq]
  exact h
theorem Bytes.text {w : World} {base : Nat} {v : Value} {l : List UInt8} (h : Bytes w base v l) : (convert 44 9 v).run Tryd.prog w = .ok (.string ⟨l.toArray⟩) w := by
  have h2 := h.2
  rcases h2 with ⟨rfl, h0⟩ | ⟨g, cap, cur, rfl, _, hg, _, _, _, htk⟩
  · obtain rfl : l = [] := List.eq_nil_of_length_eq_zero h0
    exact Lib.run_convert_nil_bytes w _ _ _ 0 Tryd.underlying44 Tryd.underlying5 Tryd.underlying9
  · refine run_convert_bytes_back w _ _ _ _ cap l Tryd.underlying44 Tryd.underlying5 Tryd.underlying9 ?_
    exact Lib.bytes_of_row hg (by rw [Nat.mul_one] at htk; exact htk)
theorem Bytes.nil (w : World) (B : Nat) : Bytes w B (.slice none 0 0) [] := World.ownsRow_nil _ _ _ _
theorem Bytes.kept {w w' : World} {B : Nat} {v : Value} {l : List UInt8} {row : Option Nat} (h : Bytes w B v l) (hg : w.grownBy w' row) (hne : v.ownBlock = none ∨ v.ownBlock ≠ row) : Bytes w' B v l := World.ownsRow.kept h hg hne
theorem Bytes.below {w w' : World} {B : Nat} {v : Value} {l : List UInt8} (h : Bytes w B v l) (hb : Below w.heap.size w w') : Bytes w' B v l := by
  rcases h.2 with ⟨rfl, -⟩ | ⟨g, cap, cur, rfl, -⟩
  · exact h.kept (grown_of_below hb) (.inl rfl)
  · exact h.kept (grown_of_below hb) (.inr (by simp [Value.ownBlock]))
theorem after_bytes {w W w3 : World} {B : Nat} {v : Value} {l : List UInt8} (own : Bytes W B v l) (hb : Below B w W) (hBw : B ≤ W.heap.size) (hgrow : W.grownBy w3 v.ownBlock) : Below B w w3 :=
  hb.grown hgrow hBw (fun k hk => (World.ownsRow.lt own k hk).1)
theorem after_byte {w W w3 : World} {B : Nat} {v : Value} {l : List UInt8} {o : Obj} (own : Bytes W B v l) (hb : Below B w W) (hBw : B ≤ W.heap.size) (hgrow : (W.alloc o).grownBy w3 v.ownBlock) : Below B w w3 :=
  (hb.alloc hBw o).grown hgrow (by rw [World.size_alloc]; omega) (fun k hk => (World.ownsRow.lt own k hk).1)
/-- append of bytes that are written out. -/
theorem append_bytes (w : World) {ops : Array Oper} {rest : List Oper} {o : Oper} {a : Act} {Q : Exit → Act → World → Prop} (hg : o.guard = none) (sl x : Operand) (hop : o.op = Op.call { callee := Callee.builtin Builtin.append, args := #[sl, x], argTypes := #[44, 44] })
    (base : Nat) (v : Value) (bs : List UInt8) (hs : a.eval sl = v) (hown : Bytes w base v bs) (b : Nat) (ys : List UInt8) (n : Nat) (hn : ys.length = n) (hx : a.eval x = .slice (some ⟨b, 0, none⟩) n n) (hc : w.heap[b]? = some (.cells (Lib.byteCells ys).toArray 5 (0, 0))) (b1 : bs.length + n ≤ 140737488355328) (hB : base ≤ w.heap.size)
    (hK : ∀ v' w', Bytes w' base v' (bs ++ ys) → w.grownBy w' v.ownBlock → wpList Tryd.prog ops Q rest (a.put o.dst v') w') :
    wpList Tryd.prog ops Q (o :: rest) a w := by
  obtain ⟨i0, hi, hz0, hz1, hz2⟩ := info_parts infoByte
  subst hn
  refine wpList_append_own w hg sl x 44 hop base 5 i0 (.int .u8 0) 1 1 Tryd.underlying44 hi hz0 hz1 hz2 rfl (by decide) v _ _ hs hown ⟨b, 0, none⟩ ys.length ys.length (Lib.byteCells ys) hx (by rw [Lib.byteCells_length, Nat.mul_one]) ?_ ?_ (by unfold maxLen; omega) (by omega) hB ?_
  · intro j u hj
    have e : (⟨b, 0, none⟩ : Addr).add j = ⟨b, j, none⟩ := by unfold Addr.add; split <;> simp_all
    rw [e, cell_of_row w b j _ _ _ hc]
    simpa using hj
  · intro u hu
    unfold Lib.byteCells at hu
    rw [List.mem_map] at hu
    obtain ⟨y, -, rfl⟩ := hu
    rfl
  · intro v' w' h1 h2 _
    exact hK v' w' (Bytes.cat h1) h2
/-- append of a string's bytes. -/
theorem append_text (w : World) {ops : Array Oper} {rest : List Oper} {o : Oper} {a : Act} {Q : Exit → Act → World → Prop} (hg : o.guard = none) (sl x : Operand) (hop : o.op = Op.call { callee := Callee.builtin Builtin.append, args := #[sl, x], argTypes := #[44, 9] })
    (base : Nat) (v : Value) (bs : List UInt8) (hs : a.eval sl = v) (hown : Bytes w base v bs) (t : ByteArray) (hx : a.eval x = .string t) (b1 : bs.length + t.size ≤ 140737488355328) (hB : base ≤ w.heap.size)
    (hK : ∀ v' w', Bytes w' base v' (bs ++ t.data.toList) → w.grownBy w' v.ownBlock → wpList Tryd.prog ops Q rest (a.put o.dst v') w') :
    wpList Tryd.prog ops Q (o :: rest) a w := by
  obtain ⟨i0, hi, hz0, hz1, hz2⟩ := info_parts infoByte
  refine Lib.wpList_append_own_string w hg sl x 44 9 hop base 5 i0 Tryd.underlying44 Tryd.underlying9 hi hz0 hz1 hz2 v _ _ hs hown t hx (by unfold maxLen; omega) (by omega) hB ?_
  intro v' w' h1 h2 _
  exact hK v' w' (Bytes.cats h1) h2
end Go.Proofs.YtdppfhgihoibnaaDoor.Qt
