/-
  One round of the program's own Mark: what it adds to the row; what its tests answer; what lies where. Conditions: texts of at most 4294967280 bytes; some variable of the library's own holds some number.
-/
import Derived.Test.YthjckmoobbpidaaMrkRnd
import Derived.Deep.AppendLies
namespace Go.Proofs.Ythjckmoobbpidaa.Mrk
open Tks Go.RowKit Go.Shelf
set_option linter.unusedSimpArgs false
set_option linter.unusedVariables false

/-- The token ahead of number k; whether a block may begin there. -/
def prevA (l : List Tk) : Nat → Tk
  | 0 => lastM
  | j + 1 => (l[j]?).getD lastM
def opA (l : List Tk) : Nat → Bool
  | 0 => true
  | j + 1 => opensT (prevA l (j + 1))
theorem prevA_at {l : List Tk} {j : Nat} (h : j < l.length) : prevA l (j + 1) = l[j] := by
  show (l[j]?).getD lastM = l[j]
  rw [List.getElem?_eq_getElem h]
  rfl
/-- What number k adds. -/
def stepT (nl : ByteArray → Int) {l : List Tk} (k : Fin l.length) : List Tk := ahead nl (decide (k.1 = 0)) (opA l k.1) (prevA l k.1) l[k] ++ [l[k]]
def markP (nl : ByteArray → Int) {l : List Tk} (pre : List (Fin l.length)) : List Tk := pre.flatMap (stepT nl)
theorem markP_snoc (nl : ByteArray → Int) {l : List Tk} (pre : List (Fin l.length)) (x : Fin l.length) : markP nl (pre ++ [x]) = markP nl pre ++ stepT nl x := by
  unfold markP
  rw [List.flatMap_append]
  simp
theorem stepT_len (nl : ByteArray → Int) {l : List Tk} (x : Fin l.length) : (stepT nl x).length ≤ 2 := by
  unfold stepT
  rw [List.length_append]
  rcases ahead_cases nl (decide (x.1 = 0)) (opA l x.1) (prevA l x.1) l[x] with h | ⟨h, -⟩ | h
  all_goals rw [h]; simp
theorem markP_len (nl : ByteArray → Int) {l : List Tk} (pre : List (Fin l.length)) : (markP nl pre).length ≤ 2 * pre.length := by
  induction pre with
  | nil => exact Nat.le_refl _
  | cons x r ih =>
    have h : markP nl (x :: r) = stepT nl x ++ markP nl r := by unfold markP; rw [List.flatMap_cons]
    have := stepT_len nl x
    rw [h, List.length_append, List.length_cons]
    omega
theorem markP_take (nl : ByteArray → Int) (l : List Tk) : ∀ k, k ≤ l.length → markP nl ((List.finRange l.length).take k) ++ markF nl (decide (k = 0)) (opA l k) (prevA l k) (l.drop k) = markL nl l := by
  intro k
  induction k with
  | zero => intro _; rfl
  | succ k ih =>
    intro hk
    rw [take_fin (by omega : k < l.length), markP_snoc]
    have h := ih (by omega)
    have hd : l.drop k = l[k] :: l.drop (k + 1) := List.drop_eq_getElem_cons (by omega)
    rw [hd] at h
    unfold markF at h
    rw [← h]
    have hp : prevA l (k + 1) = l[k] := prevA_at (by omega)
    have ho : opA l (k + 1) = opensT l[k] := by rw [← hp]; rfl
    rw [ho, hp]
    simp [stepT]
theorem markP_all (nl : ByteArray → Int) (l : List Tk) : markP nl (List.finRange l.length) ++ (if opA l l.length = true then [lastM] else []) = markL nl l := by
  have h := markP_take nl l l.length (Nat.le_refl _)
  rw [List.take_of_length_le (by simp), List.drop_eq_nil_of_le (Nat.le_refl _)] at h
  exact h

/-- What the two tests answer. -/
def blockV {l : List Tk} (k : Fin l.length) : Bool := opA l k.1 && (!braceT l[k] && (!decide (k.1 = 0) || !moduleT l[k]))
def lineV (nl : ByteArray → Int) {l : List Tk} (k : Fin l.length) : Bool := decide (k.1 = 0) || freshT nl (prevA l k.1) l[k]
theorem stepT_is (nl : ByteArray → Int) {l : List Tk} (k : Fin l.length) : stepT nl k = (if blockV k = true then [beginM l[k]] else if lineV nl k = true then [lineM l[k]] else []) ++ [l[k]] := rfl
theorem ptr_at {W : World} {v : Value} {l : List Tk} (hA : TkArg W v l) (j : Nat) (hj : j < l.length) : PtrTo W (pvOf v (j + 1)) (prevA l (j + 1)) := by
  obtain ⟨b, off, c, rfl, hlt, hc⟩ := hA.cells (by omega)
  have ht : l[j]? = some (prevA l (j + 1)) := by
    rw [prevA_at hj]
    exact List.getElem?_eq_getElem hj
  exact ⟨b, off + j * 4, rfl, hlt, fun k hk => hc j _ ht k hk⟩
theorem block_at {W : World} {v : Value} {l : List Tk} (hA : TkArg W v l) (k : Fin l.length) :
    Calls Try.prog 18 #[tkV l[k], pvOf v k.1] W fun e w' => e = .returned (.bool (blockV k)) ∧ Below W.heap.size W w' := by
  obtain ⟨k, hk⟩ := k
  cases k with
  | zero =>
    refine (blockNil_any l[0] W).mono ?_
    rintro e w' ⟨rfl, h⟩
    refine ⟨?_, h⟩
    simp [blockV, opA]
  | succ j =>
    refine (blockSome_any l[j + 1] (prevA l (j + 1)) _ W (ptr_at hA j (by omega))).mono ?_
    rintro e w' ⟨rfl, h⟩
    refine ⟨?_, h⟩
    simp [blockV, opA, Bool.and_comm]
theorem line_at {W : World} {v : Value} {l : List Tk} (hM : Mx W) (hS : Small l) (hA : TkArg W v l) (k : Fin l.length) :
    Calls Try.prog 20 #[tkV l[k], pvOf v k.1] W fun e w' => e = .returned (.bool (lineV nlS k)) ∧ Below W.heap.size W w' := by
  obtain ⟨k, hk⟩ := k
  cases k with
  | zero =>
    refine (lineNil_any l[0] W).mono ?_
    rintro e w' ⟨rfl, h⟩
    refine ⟨?_, h⟩
    simp [lineV]
  | succ j =>
    have hp : prevA l (j + 1) = l[j] := prevA_at (by omega)
    have h1 := hS.2 l[j + 1] (List.getElem_mem _)
    have h2 := hS.2 l[j] (List.getElem_mem _)
    have hpt := ptr_at hA j (by omega)
    rw [hp] at hpt
    refine (lineSome_any l[j + 1] l[j] _ W hM h2.1 h1.2 h2.2 hpt).mono ?_
    rintro e w' ⟨rfl, h⟩
    refine ⟨?_, h⟩
    simp [lineV, hp]

/-- What lies where within a round that began at W. -/
structure Mids (n₀ B Bs Bx : Nat) (W W1 : World) (v : Value) (acc : List Tk) (t : Tk) : Prop where
  box : Boxed W1 B 26 v
  own : Tks.Own W1 n₀ v acc
  tok : ObjAt W1 Bx (tkO t)
  oth : KeepsOthers W W1
  kb : KeepB n₀ Bs W W1
  size : n₀ ≤ W1.heap.size
  sep : v.ownBlock ≠ some Bx
theorem Mids.below {n₀ B Bs Bx : Nat} {W W1 W2 : World} {v : Value} {acc : List Tk} {t : Tk} (h : Mids n₀ B Bs Bx W W1 v acc t) (hb : Below W1.heap.size W1 W2) : Mids n₀ B Bs Bx W W2 v acc t :=
  ⟨(hb.block B h.box.lt).trans h.box, h.own.below hb (Nat.le_refl _), (hb.block Bx h.tok.lt).trans h.tok,
   h.oth.trans ⟨hb.size, fun k o hk ho => (hb.block k (Array.getElem?_eq_some_iff.1 hk).1).trans hk⟩,
   h.kb.trans ⟨hb.mono h.size, fun u q => (hb.block Bs q.lt).trans q⟩, Nat.le_trans h.size hb.size, h.sep⟩
theorem tok4 {W : World} {Bx : Nat} {t : Tk} (h : ObjAt W Bx (tkO t)) :
    W.cell? ⟨Bx, 0, none⟩ = some (.int .i64 t.kind) ∧ W.cell? ⟨Bx, 1, none⟩ = some (.string t.text) ∧ W.cell? ⟨Bx, 2, none⟩ = some (.int .i64 t.line) ∧ W.cell? ⟨Bx, 3, none⟩ = some (.int .i64 t.col) :=
  ⟨(ObjAt.cell h 0).trans rfl, (ObjAt.cell h 1).trans rfl, (ObjAt.cell h 2).trans rfl, (ObjAt.cell h 3).trans rfl⟩
theorem Mids.cells {n₀ B Bs Bx : Nat} {W W1 : World} {v : Value} {acc : List Tk} {t : Tk} (h : Mids n₀ B Bs Bx W W1 v acc t) :
    W1.cell? ⟨B, 0, none⟩ = some v ∧ W1.cell? ⟨Bx, 0, none⟩ = some (.int .i64 t.kind) ∧ W1.cell? ⟨Bx, 1, none⟩ = some (.string t.text) ∧ W1.cell? ⟨Bx, 2, none⟩ = some (.int .i64 t.line) ∧ W1.cell? ⟨Bx, 3, none⟩ = some (.int .i64 t.col) := by
  refine ⟨h.box.cell, ?_, ?_, ?_, ?_⟩
  · exact (h.tok.cell 0).trans rfl
  · exact (h.tok.cell 1).trans rfl
  · exact (h.tok.cell 2).trans rfl
  · exact (h.tok.cell 3).trans rfl
/-- Behind an append and the store of what it answers. -/
theorem Mids.fwd {n₀ B Bs Bx : Nat} {W W1 W2 : World} {v v' : Value} {acc acc' : List Tk} {t : Tk} (h : Mids n₀ B Bs Bx W W1 v acc t) (f : Fwd n₀ B Bs W1 W2 v' acc') : Fwd n₀ B Bs W W2 v' acc' :=
  ⟨f.box, f.own, h.oth.trans f.oth, h.kb.trans f.kb⟩
theorem below_drew (n : Nat) (W : World) : Below n W W.drew := ⟨rfl, rfl, rfl, Nat.le_refl _, fun _ _ => rfl⟩
/-- append of two tokens that were just laid in one block, within a region that draws. -/
theorem push_step {ops : Array Oper} {o : Oper} {a : Act} {K : Act → World → Prop} {Q : Exit → Act → World → Prop} {E : Prop} (hg : o.guard = none) (sl x : Operand) (hop : o.op = Op.call { callee := Callee.builtin Builtin.append, args := #[sl, x], argTypes := #[26, 26] })
    (W0 W : World) (n₀ B Bs Bx : Nat) (v : Value) (acc : List Tk) (m t u : Tk) (ty : TypeId) (c : Nat) (hs : a.eval sl = v) (h : Mids n₀ B Bs Bx W0 W v acc u) (hB : n₀ ≤ B) (hne : Bs ≠ B) (hx : a.eval x = .slice (some ⟨W.heap.size, 0, none⟩) 2 c) (b1 : acc.length + 2 ≤ 3518437208880)
    (hK : ∀ g cap w1, Boxed w1 B 26 v → ObjAt w1 Bx (tkO u) → Fwd n₀ B Bs W0 (w1.setCell ⟨B, 0, none⟩ (.slice (some ⟨g, 0, none⟩) (acc.length + 2) cap)) (.slice (some ⟨g, 0, none⟩) (acc.length + 2) cap) (acc ++ [m, t]) → K (a.put o.dst (.slice (some ⟨g, 0, none⟩) (acc.length + 2) cap)) w1) :
    if Region.wanted o (yielded ops a.tmps) = true then Oper.wp Try.prog o a (W.alloc (.cells #[.int .i64 m.kind, .string m.text, .int .i64 m.line, .int .i64 m.col, .int .i64 t.kind, .string t.text, .int .i64 t.line, .int .i64 t.col] ty)) K Q else E := by
  obtain ⟨i0, hi, hz0, hz1, hz2⟩ := info_parts infoTok
  refine step_append_lies _ hg sl x 26 hop n₀ 23 i0 _ 4 40 Try.underlying26 hi hz0 hz1 hz2 rfl (by decide) v acc.length (acc.flatMap tkC) hs (World.ownsRow.alloc h.own _) ⟨W.heap.size, 0, none⟩ 2 c ([m, t].flatMap tkC) hx rfl (fun j u hj => ?_) ?_ (by decide) (by unfold maxLen; omega) (by omega) (by rw [World.size_alloc]; have := h.size; omega) _ rfl ?_
  · rw [add_plain, new_cell]
    simpa [tkC] using hj
  · intro u hu
    simp only [tkC, List.flatMap_cons, List.flatMap_nil, List.cons_append, List.nil_append, List.append_nil, List.mem_cons, List.not_mem_nil, or_false] at hu
    rcases hu with rfl | rfl | rfl | rfl | rfl | rfl | rfl | rfl <;> rfl
  · intro g cap w1 h1 h2 _ _
    have h3 : Tks.Own w1 n₀ (.slice (some ⟨g, 0, none⟩) (acc.length + 2) cap) (acc ++ [m, t]) := by
      unfold Tks.Own
      rw [List.length_append, List.flatMap_append]
      simpa using h1
    obtain ⟨k1, k2⟩ := pushed (Bs := Bs) h.box h.own h.size hB hne h3 h2
    refine hK g cap w1 k1 ?_ (h.fwd k2)
    have hl : ObjAt (W.alloc (.cells #[.int .i64 m.kind, .string m.text, .int .i64 m.line, .int .i64 m.col, .int .i64 t.kind, .string t.text, .int .i64 t.line, .int .i64 t.col] ty)) Bx (tkO u) := h.tok.kept (World.grownBy_alloc W _ none) (by simp)
    exact hl.kept h2 (Ne.symm h.sep)
theorem tok_store {W : World} {B Bx : Nat} {t : Tk} (h : ObjAt W Bx (tkO t)) (hne : Bx ≠ B) (v : Value) : ObjAt (W.setCell ⟨B, 0, none⟩ v) Bx (tkO t) := h.kept (grownBy_setCell' W B v) (fun e => hne (by cases e; rfl))
end Go.Proofs.Ythjckmoobbpidaa.Mrk
