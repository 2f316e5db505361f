/-
  Rows of bytes that a call owns; the document's digits. Conditions: numbers below 100.
-/
import Derived.Test.YtmandanmndmnhaaDoorTreRgt
import Derived.Lib.AppendStr
import Derived.Lib.BufferRead
import Derived.ArgAppend
import Derived.Deep.AppendLies
namespace Go.Proofs.YtmandanmndmnhaaDoor.Tre
open Tks Go.RowKit
set_option linter.unusedSimpArgs false
set_option linter.unusedVariables false

theorem grown_of_below {w w' : World} (h : Below w.heap.size w w') : w.grownBy w' none := ⟨h.os, h.tape, h.output, h.size, fun k hk _ => h.block k hk⟩
theorem infoByte : (Tryd.prog.info? 5).map (fun i => (i.zero, i.size, i.bytes)) = some (some (.int .u8 0), 1, 1) := by kernel_rfl
/-- A row of bytes in memory of the call's own. -/
def Bytes (w : World) (base : Nat) (v : Value) (l : List UInt8) : Prop := w.ownsRow base 5 1 v l.length (Lib.byteCells l)
theorem Bytes.cat {w : World} {base : Nat} {v : Value} {l ys : List UInt8} (h : w.ownsRow base 5 1 v (l.length + ys.length) (Lib.byteCells l ++ Lib.byteCells ys)) : Bytes w base v (l ++ ys) := by
  unfold Bytes
  rw [List.length_append, Lib.byteCells_append]
  exact h
theorem Bytes.cats {w : World} {base : Nat} {v : Value} {l : List UInt8} {x : ByteArray} (h : w.ownsRow base 5 1 v (l.length + x.size) (Lib.byteCells l ++ Lib.strCells x)) : Bytes w base v (l ++ x.data.toList) := by
  unfold Bytes
  rw [List.length_append, Lib.byteCells_append, ← Lib.size_eq, ← Lib.strCells_eq]
  exact h
theorem Bytes.text {w : World} {base : Nat} {v : Value} {l : List UInt8} (h : Bytes w base v l) : (convert 44 9 v).run Tryd.prog w = .ok (.string ⟨l.toArray⟩) w := by
  have h2 := h.2
  rcases h2 with ⟨rfl, h0⟩ | ⟨g, cap, cur, rfl, _, hg, _, _, _, htk⟩
  · obtain rfl : l = [] := List.eq_nil_of_length_eq_zero h0
    exact Lib.run_convert_nil_bytes w _ _ _ 0 Tryd.underlying44 Tryd.underlying5 Tryd.underlying9
  · refine run_convert_bytes_back w _ _ _ _ cap l Tryd.underlying44 Tryd.underlying5 Tryd.underlying9 ?_
    exact Lib.bytes_of_row hg (by rw [Nat.mul_one] at htk; exact htk)
theorem Bytes.nil (w : World) (B : Nat) : Bytes w B (.slice none 0 0) [] := World.ownsRow_nil _ _ _ _
theorem Bytes.kept {w w' : World} {B : Nat} {v : Value} {l : List UInt8} {row : Option Nat} (h : Bytes w B v l) (hg : w.grownBy w' row) (hne : v.ownBlock = none ∨ v.ownBlock ≠ row) : Bytes w' B v l := World.ownsRow.kept h hg hne
theorem Bytes.below {w w' : World} {B : Nat} {v : Value} {l : List UInt8} (h : Bytes w B v l) (hb : Below w.heap.size w w') : Bytes w' B v l := by
  rcases h.2 with ⟨rfl, -⟩ | ⟨g, cap, cur, rfl, -⟩
  · exact h.kept (grown_of_below hb) (.inl rfl)
  · exact h.kept (grown_of_below hb) (.inr (by simp [Value.ownBlock]))
theorem after_bytes {w W w3 : World} {B : Nat} {v : Value} {l : List UInt8} (own : Bytes W B v l) (hb : Below B w W) (hBw : B ≤ W.heap.size) (hgrow : W.grownBy w3 v.ownBlock) : Below B w w3 :=
  hb.grown hgrow hBw (fun k hk => (World.ownsRow.lt own k hk).1)
theorem after_byte {w W w3 : World} {B : Nat} {v : Value} {l : List UInt8} {o : Obj} (own : Bytes W B v l) (hb : Below B w W) (hBw : B ≤ W.heap.size) (hgrow : (W.alloc o).grownBy w3 v.ownBlock) : Below B w w3 :=
  (hb.alloc hBw o).grown hgrow (by rw [World.size_alloc]; omega) (fun k hk => (World.ownsRow.lt own k hk).1)
/-- append of bytes that are written out. -/
theorem append_bytes (w : World) {ops : Array Oper} {rest : List Oper} {o : Oper} {a : Act} {Q : Exit → Act → World → Prop} (hg : o.guard = none) (sl x : Operand) (hop : o.op = Op.call { callee := Callee.builtin Builtin.append, args := #[sl, x], argTypes := #[44, 44] })
    (base : Nat) (v : Value) (bs : List UInt8) (hs : a.eval sl = v) (hown : Bytes w base v bs) (b : Nat) (ys : List UInt8) (n : Nat) (hn : ys.length = n) (hx : a.eval x = .slice (some ⟨b, 0, none⟩) n n) (hc : w.heap[b]? = some (.cells (Lib.byteCells ys).toArray 5 (0, 0))) (b1 : bs.length + n ≤ 140737488355328) (hB : base ≤ w.heap.size)
    (hK : ∀ v' w', Bytes w' base v' (bs ++ ys) → w.grownBy w' v.ownBlock → wpList Tryd.prog ops Q rest (a.put o.dst v') w') :
    wpList Tryd.prog ops Q (o :: rest) a w := by
  obtain ⟨i0, hi, hz0, hz1, hz2⟩ := info_parts infoByte
  subst hn
  refine wpList_append_own w hg sl x 44 hop base 5 i0 (.int .u8 0) 1 1 Tryd.underlying44 hi hz0 hz1 hz2 rfl (by decide) v _ _ hs hown ⟨b, 0, none⟩ ys.length ys.length (Lib.byteCells ys) hx (by rw [Lib.byteCells_length, Nat.mul_one]) ?_ ?_ (by unfold maxLen; omega) (by omega) hB ?_
  · intro j u hj
    have e : (⟨b, 0, none⟩ : Addr).add j = ⟨b, j, none⟩ := by unfold Addr.add; split <;> simp_all
    rw [e, cell_of_row w b j _ _ _ hc]
    simpa using hj
  · intro u hu
    unfold Lib.byteCells at hu
    rw [List.mem_map] at hu
    obtain ⟨y, -, rfl⟩ := hu
    rfl
  · intro v' w' h1 h2 _
    exact hK v' w' (Bytes.cat h1) h2
/-- append of a string's bytes. -/
theorem append_text (w : World) {ops : Array Oper} {rest : List Oper} {o : Oper} {a : Act} {Q : Exit → Act → World → Prop} (hg : o.guard = none) (sl x : Operand) (hop : o.op = Op.call { callee := Callee.builtin Builtin.append, args := #[sl, x], argTypes := #[44, 9] })
    (base : Nat) (v : Value) (bs : List UInt8) (hs : a.eval sl = v) (hown : Bytes w base v bs) (t : ByteArray) (hx : a.eval x = .string t) (b1 : bs.length + t.size ≤ 140737488355328) (hB : base ≤ w.heap.size)
    (hK : ∀ v' w', Bytes w' base v' (bs ++ t.data.toList) → w.grownBy w' v.ownBlock → wpList Tryd.prog ops Q rest (a.put o.dst v') w') :
    wpList Tryd.prog ops Q (o :: rest) a w := by
  obtain ⟨i0, hi, hz0, hz1, hz2⟩ := info_parts infoByte
  refine Lib.wpList_append_own_string w hg sl x 44 9 hop base 5 i0 Tryd.underlying44 Tryd.underlying9 hi hz0 hz1 hz2 v _ _ hs hown t hx (by unfold maxLen; omega) (by omega) hB ?_
  intro v' w' h1 h2 _
  exact hK v' w' (Bytes.cats h1) h2
theorem Bytes.less {w : World} {A B : Nat} {v : Value} {l : List UInt8} (h : Bytes w B v l) (hb : A ≤ B) : Bytes w A v l :=
  ⟨h.1, h.2.imp id fun ⟨g, cap, cur, h1, h2, h3⟩ => ⟨g, cap, cur, h1, Nat.le_trans hb h2, h3⟩⟩
theorem dig_one : ∀ m : Nat, m < 10 → (⟨#[48, 49, 50, 51, 52, 53, 54, 55, 56, 57]⟩ : ByteArray).extract m (m + 1) = ⟨#[byte (48 + m)]⟩
  | 0, _ => rfl
  | 1, _ => rfl
  | 2, _ => rfl
  | 3, _ => rfl
  | 4, _ => rfl
  | 5, _ => rfl
  | 6, _ => rfl
  | 7, _ => rfl
  | 8, _ => rfl
  | 9, _ => rfl
  | n + 10, h => absurd h (by omega)
theorem refdigit_low (n : Nat) (hn : n < 10) (w : World) : Calls Tryd.prog 47 #[.int .i64 (n : Int)] w fun e w' => e = .returned (.string ⟨#[byte (48 + n)]⟩) ∧ w' = w := by
  have HD := Lib.hid (dig_one n hn)
  have m1 : (n : Int).tmod 10 = (n : Int) := Int.tmod_eq_of_lt (by omega) (by omega)
  have i0 : (0 : Int) ≤ (n : Int) := by omega
  have i1 : (n : Int) ≤ (n : Int) + 1 := by omega
  have i2 : (n : Int) + 1 ≤ 10 := by omega
  have m2 : n % 10 = n := by omega
  have w1 : wrap64 ((n : Int) + 1) = (n : Int) + 1 := IntWalk.wrap64_in _ ⟨by omega, by omega⟩
  have d1 : decide ((n : Int) < 10) = true := decide_eq_true (by omega)
  go_enter Tryd.func47, Tryd.ntmps47
  go_wp2_with fail
  go_ret
  exact ⟨by rw [← HD.out]; rfl, rfl⟩
theorem refdigits_any (n : Nat) (hn : n < 100) (w : World) : Calls Tryd.prog 47 #[.int .i64 (n : Int)] w fun e w' => e = .returned (.string ⟨(digL n).toArray⟩) ∧ w' = w := by
  by_cases hl : n < 10
  · have e : digL n = [byte (48 + n)] := by unfold digL; rw [if_pos hl]
    rw [e]
    exact refdigit_low n hl w
  · have e : digL n = [byte (48 + n / 10), byte (48 + n % 10)] := by unfold digL; rw [if_neg hl]
    rw [e]
    have HD := Lib.hid (dig_one (n % 10) (by omega))
    have C := Lib.hid (refdigit_low (n / 10) (by omega) w)
    have m1 : (n : Int).tmod 10 = ((n % 10 : Nat) : Int) := by rw [Int.tmod_eq_emod_of_nonneg (by omega)]; omega
    have q1 : (n : Int).tdiv 10 = ((n / 10 : Nat) : Int) := by rw [Int.tdiv_eq_ediv_of_nonneg (by omega)]; omega
    have w1 : wrap64 (((n % 10 : Nat) : Int) + 1) = ((n % 10 : Nat) : Int) + 1 := IntWalk.wrap64_in _ ⟨by omega, by omega⟩
    have w2 : wrap64 ((n / 10 : Nat) : Int) = ((n / 10 : Nat) : Int) := IntWalk.wrap64_in _ ⟨by omega, by omega⟩
    have d1 : decide ((n : Int) < 10) = false := decide_eq_false (by omega)
    have d2 : decide (n < 10) = false := decide_eq_false hl
    have i0 : (0 : Int) ≤ ((n % 10 : Nat) : Int) := by omega
    have i1 : ((n % 10 : Nat) : Int) ≤ ((n % 10 : Nat) : Int) + 1 := by omega
    have i2 : ((n % 10 : Nat) : Int) + 1 ≤ 10 := by omega
    generalize n / 10 = q at *
    generalize n % 10 = m at *
    clear e hl
    go_enter Tryd.func47, Tryd.ntmps47
    go_wp2_with (first
      | (go_at_call 47; refine C.out.mono ?_; rintro e w2 ⟨rfl, hw⟩; rw [hw]; clear hw))

    go_ret
    exact ⟨by rw [HD.out]; rfl, rfl⟩
/-- All blocks that are no rows of bytes are as they were. -/
structure Nb (w w' : World) : Prop where
  size : w.heap.size ≤ w'.heap.size
  block : ∀ (k : Nat) (o : Obj), w.heap[k]? = some o → (∀ cur fr, o ≠ Obj.cells cur 5 fr) → w'.heap[k]? = some o
theorem Nb.refl (w : World) : Nb w w := ⟨Nat.le_refl _, fun _ _ h _ => h⟩
theorem Nb.trans {a b c : World} (h : Nb a b) (k : Nb b c) : Nb a c := ⟨Nat.le_trans h.size k.size, fun j o hj ho => k.block j o (h.block j o hj ho) ho⟩
theorem Nb.of_below {w w' : World} (h : Below w.heap.size w w') : Nb w w' := ⟨h.size, fun k o hk _ => (h.block k (Array.getElem?_eq_some_iff.1 hk).1).trans hk⟩
theorem Nb.of_row {w w' : World} {B : Nat} {v : Value} {l : List UInt8} (own : Bytes w B v l) (hg : w.grownBy w' v.ownBlock) : Nb w w' := by
  refine ⟨hg.size, fun k o hk ho => (hg.block k (Array.getElem?_eq_some_iff.1 hk).1 fun e => ?_).trans hk⟩
  rcases own.2 with ⟨rfl, _⟩ | ⟨g, cap, cur, rfl, _, h2, _⟩
  · cases e
  · have e : k = g := by
      injection e
    subst e
    rw [h2] at hk
    injection hk with hk
    exact ho cur (0, 0) hk.symm
theorem Nb.node {w w' : World} (h : Nb w w') {b : Nat} {hd : Hd} {vk : Value} (hl : Lies w b (ndO hd vk)) : Lies w' b (ndO hd vk) :=
  h.block b _ hl (fun cur fr e => by
    unfold ndO at e
    injection e with _ e2
    exact absurd e2 (by decide))
/-- append of bytes that were just laid. -/
theorem push_lit (W : World) {ops : Array Oper} {rest : List Oper} {o : Oper} {a : Act} {Q : Exit → Act → World → Prop} (hg : o.guard = none) (sl x : Operand) (hop : o.op = Op.call { callee := Callee.builtin Builtin.append, args := #[sl, x], argTypes := #[44, 44] })
    (base : Nat) (v : Value) (bs : List UInt8) (hs : a.eval sl = v) (hown : Bytes W base v bs) (ys : List UInt8) (cs : Array Value) (hcs : cs = (Lib.byteCells ys).toArray) (n : Nat) (hn : ys.length = n) (hx : a.eval x = .slice (some ⟨W.heap.size, 0, none⟩) n n) (b1 : bs.length + n ≤ 140737488355328) (hB : base ≤ W.heap.size)
    (hK : ∀ v' w', Bytes w' base v' (bs ++ ys) → Below base W w' → Nb W w' → wpList Tryd.prog ops Q rest (a.put o.dst v') w') :
    wpList Tryd.prog ops Q (o :: rest) a (W.alloc (.cells cs 5)) := by
  subst hcs
  have h0 : Below W.heap.size W (W.alloc (.cells (Lib.byteCells ys).toArray 5)) := below_one W _
  have hown' := hown.below h0
  have s1 : (W.alloc (.cells (Lib.byteCells ys).toArray 5)).heap.size = W.heap.size + 1 := World.size_alloc ..
  refine append_bytes _ hg sl x hop base v bs hs hown' W.heap.size ys n hn hx (heap_alloc_new W _) b1 (by omega) ?_
  intro v' w' h1 g1
  exact hK v' w' h1 ((h0.mono hB).trans (after_bytes hown' (Below.refl base _) (by omega) g1)) ((Nb.of_below h0).trans (Nb.of_row hown' g1))
/-- The same, within a region that draws. -/
theorem step_lit (W : World) {ops : Array Oper} {o : Oper} {a : Act} {K : Act → World → Prop} {Q : Exit → Act → World → Prop} {E : Prop} (hg : o.guard = none) (sl x : Operand) (hop : o.op = Op.call { callee := Callee.builtin Builtin.append, args := #[sl, x], argTypes := #[44, 44] })
    (base : Nat) (v : Value) (bs : List UInt8) (hs : a.eval sl = v) (hown : Bytes W base v bs) (ys : List UInt8) (cs : Array Value) (hcs : cs = (Lib.byteCells ys).toArray) (n : Nat) (hn : ys.length = n) (hn0 : 0 < n) (hx : a.eval x = .slice (some ⟨W.heap.size, 0, none⟩) n n) (b1 : bs.length + n ≤ 140737488355328 - 4096) (hB : base ≤ W.heap.size)
    (hK : ∀ g cap w', Bytes w' base (.slice (some ⟨g, 0, none⟩) (bs.length + n) cap) (bs ++ ys) → Below base W w' → Nb W w' → K (a.put o.dst (.slice (some ⟨g, 0, none⟩) (bs.length + n) cap)) w') :
    if Region.wanted o (yielded ops a.tmps) = true then Oper.wp Tryd.prog o a (W.alloc (.cells cs 5)).drew K Q else E := by
  subst hcs
  subst hn
  have h0 : Below W.heap.size W (W.alloc (.cells (Lib.byteCells ys).toArray 5)).drew := bdrew (below_one W _)
  have hown' := hown.below h0
  have s1 : (W.alloc (.cells (Lib.byteCells ys).toArray 5)).drew.heap.size = W.heap.size + 1 := World.size_alloc ..
  obtain ⟨i0, hi, hz0, hz1, hz2⟩ := info_parts infoByte
  refine step_append_lies _ hg sl x 44 hop base 5 i0 _ 1 1 Tryd.underlying44 hi hz0 hz1 hz2 rfl (by decide) v bs.length (Lib.byteCells bs) hs hown' ⟨W.heap.size, 0, none⟩ ys.length ys.length (Lib.byteCells ys) hx (by rw [Lib.byteCells_length, Nat.mul_one]) (World.news_of_block (heap_alloc_new W _)) ?_ hn0 (by unfold maxLen; omega) (by omega) (by omega) _ rfl ?_
  · intro u hu
    unfold Lib.byteCells at hu
    rw [List.mem_map] at hu
    obtain ⟨y, -, rfl⟩ := hu
    rfl
  · intro g cap w' h1 g1 _ _
    exact hK g cap w' (Bytes.cat h1) ((h0.mono hB).trans (after_bytes hown' (Below.refl base _) (by omega) g1)) ((Nb.of_below h0).trans (Nb.of_row hown' g1))
/-- append of a text's bytes. -/
theorem push_text (W : World) {ops : Array Oper} {rest : List Oper} {o : Oper} {a : Act} {Q : Exit → Act → World → Prop} (hg : o.guard = none) (sl x : Operand) (hop : o.op = Op.call { callee := Callee.builtin Builtin.append, args := #[sl, x], argTypes := #[44, 9] })
    (base : Nat) (v : Value) (bs : List UInt8) (hs : a.eval sl = v) (hown : Bytes W base v bs) (ys : List UInt8) (hx : a.eval x = .string ⟨ys.toArray⟩) (b1 : bs.length + ys.length ≤ 140737488355328) (hB : base ≤ W.heap.size)
    (hK : ∀ v' w', Bytes w' base v' (bs ++ ys) → Below base W w' → Nb W w' → wpList Tryd.prog ops Q rest (a.put o.dst v') w') :
    wpList Tryd.prog ops Q (o :: rest) a W := by
  refine append_text W hg sl x hop base v bs hs hown ⟨ys.toArray⟩ hx (by show bs.length + ys.toArray.size ≤ _; rw [List.size_toArray]; exact b1) hB ?_
  intro v' w' h1 g1
  exact hK v' w' h1 (after_bytes hown (Below.refl base _) hB g1) (Nb.of_row hown g1)
end Go.Proofs.YtmandanmndmnhaaDoor.Tre
