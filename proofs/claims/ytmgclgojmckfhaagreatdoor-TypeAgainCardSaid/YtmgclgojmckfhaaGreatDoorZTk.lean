/-
  Tokens as they are read: slices of them that came in or that the call has made, what lies in them, how they grow, when two hold the same. No condition but sizes.
-/
import Derived.Test.YtmgclgojmckfhaaGreatDoorRows
import Derived.WalkKit
import Derived.OwnWalk
import Derived.Laws.OwnMore
import Derived.Maps.AppendAt
import Derived.Deep.AppendLies
import Derived.Deep.AppendSrc
import Derived.Deep.Slices
import Derived.Deep.Fields
import Derived.ChangeSame
import Derived.Lib.Hide
import Derived.Lib.MapLaws
import Derived.Deep.Draws
import Derived.Deep.QuietTactic
import Derived.BigQuiet
import Derived.LoopTactic
import Derived.Handy
import Derived.Deep.RegionWith
import Derived.Deep.RegionHeld3
import Derived.Deep.Cut
namespace Go.Proofs.YtmgclgojmckfhaaGreatDoor.Tks
open Go.RowKit
set_option linter.unusedSimpArgs false
set_option linter.unusedVariables false

theorem below_drewN {B : Nat} {a w : World} (h : Below B a w) (n : Nat) : Below B a (w.drewN n) := ⟨h.os, h.tape, h.output, h.size, h.block⟩
theorem undrew {w w' : World} {B n : Nat} (h : Below B (w.drewN n) w') : Below B w w' := ⟨h.os, h.tape, h.output, h.size, h.block⟩
theorem infoTok : (Tryz.prog.info? 41).map (fun i => (i.zero, i.size, i.bytes)) = some (some (.agg #[.int .i64 0, .string ⟨#[]⟩, .int .i64 0, .int .i64 0]), 4, 40) := by kernel_rfl
theorem add_plain (g j : Nat) : (⟨g, 0, none⟩ : Addr).add j = ⟨g, j, none⟩ := by unfold Addr.add; split <;> simp_all
theorem flat_at {α : Type} (f : α → List Value) (k : Nat) (hf : ∀ x, (f x).length = k) : ∀ (l : List α) (i j : Nat) (x : α), l[i]? = some x → j < k → (l.flatMap f)[i * k + j]? = (f x)[j]?
  | [], i, j, x, h, _ => by simp at h
  | y :: l, 0, j, x, h, hj => by
    simp at h
    subst h
    rw [List.flatMap_cons, Nat.zero_mul, Nat.zero_add, List.getElem?_append_left (by rw [hf]; exact hj)]
  | y :: l, i + 1, j, x, h, hj => by
    have := flat_at f k hf l i j x (by simpa using h) hj
    rw [List.flatMap_cons, List.getElem?_append_right (by rw [hf, Nat.succ_mul]; omega), hf, Nat.succ_mul, show i * k + k + j - k = i * k + j by omega]
    exact this
theorem flat_len {α : Type} (f : α → List Value) (k : Nat) (hf : ∀ x, (f x).length = k) : ∀ l : List α, (l.flatMap f).length = l.length * k
  | [] => by simp
  | y :: l => by rw [List.flatMap_cons, List.length_append, hf, flat_len f k hf l, List.length_cons, Nat.succ_mul, Nat.add_comm]
theorem own_slice {w : World} {B size n : Nat} {e : TypeId} {v : Value} {xs : List Value} (h : w.ownsRow B e size v n xs) : ∃ a k c, v = .slice a k c := by
  rcases h.2 with ⟨rfl, _⟩ | ⟨g, cap, cur, rfl, _⟩
  · exact ⟨_, _, _, rfl⟩
  · exact ⟨_, _, _, rfl⟩
theorem own_len {w : World} {B size n : Nat} {e : TypeId} {v : Value} {xs : List Value} (h : w.ownsRow B e size v n xs) : ∃ a c, v = .slice a n c := by
  rcases h.2 with ⟨rfl, h0⟩ | ⟨g, cap, cur, rfl, _⟩
  · subst h0
    exact ⟨_, _, rfl⟩
  · exact ⟨_, _, rfl⟩
/-- A token as it is read. -/
structure Tk where
  kind : Int
  text : ByteArray
  line : Int
  col : Int
def tkC (t : Tk) : List Value := [.int .i64 t.kind, .string t.text, .int .i64 t.line, .int .i64 t.col]
/-- The tokens that a slice holds. -/
def TkArg (w : World) (v : Value) (l : List Tk) : Prop :=
  (l = [] ∧ ∃ a c, v = .slice a 0 c) ∨
  (∃ b off c, v = .slice (some ⟨b, off, none⟩) l.length c ∧ b < w.heap.size ∧ ∀ (i : Nat) (t : Tk), l[i]? = some t → ∀ k : Nat, k < 4 → w.cell? ⟨b, off + i * 4 + k, none⟩ = (tkC t)[k]?)
theorem TkArg.below {w w' : World} {v : Value} {l : List Tk} {B : Nat} (h : TkArg w v l) (hb : Below B w w') (hB : w.heap.size ≤ B) : TkArg w' v l := by
  rcases h with h | ⟨b, off, c, hv, hlt, hc⟩
  · exact .inl h
  · exact .inr ⟨b, off, c, hv, Nat.lt_of_lt_of_le hlt hb.size, fun i t ht k hk => (World.cell?_of_block (hb.block b (Nat.lt_of_lt_of_le hlt hB))).trans (hc i t ht k hk)⟩
theorem idx_at (k n : Nat) (h : k < n) (hm : n ≤ 3518437208880) : wrap64 ((k : Int) + 1) = (k : Int) + 1 := by
  have h1 : (k : Int) ≤ 3518437208880 := by omega
  have h2 : (0 : Int) ≤ (k : Int) := by omega
  generalize (k : Int) = z at h1 h2 ⊢
  unfold wrap64
  omega
theorem TkArg.len {w : World} {v : Value} {l : List Tk} (h : TkArg w v l) : ∃ a c, v = .slice a l.length c := by
  rcases h with ⟨rfl, a, c, rfl⟩ | ⟨b, off, c, rfl, -⟩
  · exact ⟨a, c, rfl⟩
  · exact ⟨_, c, rfl⟩
theorem TkArg.cells {w : World} {v : Value} {l : List Tk} (h : TkArg w v l) (hl : l.length ≠ 0) : ∃ b off c, v = .slice (some ⟨b, off, none⟩) l.length c ∧ b < w.heap.size ∧ ∀ (i : Nat) (t : Tk), l[i]? = some t → ∀ k : Nat, k < 4 → w.cell? ⟨b, off + i * 4 + k, none⟩ = (tkC t)[k]? := by
  rcases h with ⟨rfl, -⟩ | h
  · exact absurd rfl hl
  · exact h
/-- Cells that a later world still holds. -/
def TkIn (w : World) (b off : Nat) (l : List Tk) : Prop := b < w.heap.size ∧ ∀ (i : Nat) (t : Tk), l[i]? = some t → ∀ k : Nat, k < 4 → w.cell? ⟨b, off + i * 4 + k, none⟩ = (tkC t)[k]?
theorem TkIn.below {w w' : World} {b off : Nat} {l : List Tk} {B : Nat} (h : TkIn w b off l) (hb : Below B w w') (hB : w.heap.size ≤ B) : TkIn w' b off l :=
  ⟨Nat.lt_of_lt_of_le h.1 hb.size, fun i t ht k hk => (World.cell?_of_block (hb.block b (Nat.lt_of_lt_of_le h.1 hB))).trans (h.2 i t ht k hk)⟩
theorem TkIn.four {w : World} {b off : Nat} {l : List Tk} (h : TkIn w b off l) (i : Nat) (t : Tk) (ht : l[i]? = some t) :
    w.cell? ⟨b, off + i * 4, none⟩ = some (.int .i64 t.kind) ∧ w.cell? ⟨b, off + i * 4 + 1, none⟩ = some (.string t.text) ∧ w.cell? ⟨b, off + i * 4 + 2, none⟩ = some (.int .i64 t.line) ∧ w.cell? ⟨b, off + i * 4 + 3, none⟩ = some (.int .i64 t.col) :=
  ⟨h.2 i t ht 0 (by omega), h.2 i t ht 1 (by omega), h.2 i t ht 2 (by omega), h.2 i t ht 3 (by omega)⟩
theorem tk_len (t : Tk) : (tkC t).length = 4 := rfl
theorem own_arg {w : World} {B : Nat} {v : Value} {l : List Tk} (h : w.ownsRow B 41 4 v l.length (l.flatMap tkC)) : TkArg w v l := by
  rcases h.2 with ⟨rfl, h0⟩ | ⟨g, cap, cur, rfl, hb, hg, _⟩
  · obtain rfl : l = [] := List.eq_nil_of_length_eq_zero h0
    exact .inl ⟨rfl, _, _, rfl⟩
  · refine .inr ⟨g, 0, cap, rfl, lt_of_block hg, fun i t ht k hk => ?_⟩
    have h0 := flat_at tkC 4 tk_len l i k t ht hk
    obtain ⟨u, hu⟩ : ∃ u, (tkC t)[k]? = some u := ⟨_, List.getElem?_eq_getElem (by rw [tk_len]; exact hk)⟩
    rw [hu] at h0 ⊢
    have := World.ownsRow.cells h (g := g) rfl _ _ h0
    rw [add_plain] at this
    rw [Nat.zero_add]
    exact this
/-! ### Rows of the call's own -/

def Own (w : World) (B : Nat) (v : Value) (l : List Tk) : Prop := w.ownsRow B 41 4 v l.length (l.flatMap tkC)
theorem Own.nil (w : World) (B : Nat) : Own w B (.slice none 0 0) [] := World.ownsRow_nil _ _ _ _
theorem Own.arg {w : World} {B : Nat} {v : Value} {l : List Tk} (h : Own w B v l) : TkArg w v l := own_arg h
theorem Own.below {w w' : World} {B C : Nat} {v : Value} {l : List Tk} (h : Own w B v l) (hb : Below C w w') (hC : w.heap.size ≤ C) : Own w' B v l := by
  have hg : w.grownBy w' none := ⟨hb.os, hb.tape, hb.output, hb.size, fun k hk _ => hb.block k (by omega)⟩
  rcases hv : v.ownBlock with _ | g
  · exact World.ownsRow.kept h hg (.inl hv)
  · exact World.ownsRow.kept h hg (.inr (by rw [hv]; simp))
/-- append of one token: the same block, or a new one. -/
theorem append_one (w : World) {ops : Array Oper} {rest : List Oper} {o : Oper} {a : Act} {Q : Exit → Act → World → Prop} (hg : o.guard = none) (sl x : Operand) (hop : o.op = Op.call { callee := Callee.builtin Builtin.append, args := #[sl, x], argTypes := #[23, 23] })
    (base : Nat) (v : Value) (l : List Tk) (hs : a.eval sl = v) (hown : Own w base v l) (ad : Addr) (t : Tk) (c : Nat) (hx : a.eval x = .slice (some ad) 1 c) (hc : ∀ (j : Nat) u, (tkC t)[j]? = some u → w.cell? (ad.add j) = some u) (b1 : l.length + 1 ≤ 3518437208880) (hB : base ≤ w.heap.size)
    (hK : ∀ v' w', Own w' base v' (l ++ [t]) → w.grownBy w' v.ownBlock → (v'.ownBlock = v.ownBlock ∨ v'.ownBlock = some w.heap.size) → wpList Tryz.prog ops Q rest (a.put o.dst v') w') :
    wpList Tryz.prog ops Q (o :: rest) a w := by
  obtain ⟨i0, hi, hz0, hz1, hz2⟩ := info_parts infoTok
  refine wpList_append_own_at w hg sl x 23 hop base 41 i0 _ 4 40 Tryz.underlying23 hi hz0 hz1 hz2 rfl (by decide) v l.length (l.flatMap tkC) hs hown ad 1 c (tkC t) hx rfl hc ?_ (by unfold maxLen; omega) (by omega) hB ?_
  · intro u hu
    simp only [tkC, List.mem_cons, List.not_mem_nil, or_false] at hu
    rcases hu with rfl | rfl | rfl | rfl <;> rfl
  · intro v' w' h1 h2 _ h4
    refine hK v' w' ?_ h2 h4
    unfold Own
    rw [List.length_append, List.flatMap_append]
    simpa using h1
theorem new_cell (w : World) (cs : Array Value) (t : TypeId) (k : Nat) : (w.alloc (.cells cs t)).cell? ⟨w.heap.size, k, none⟩ = cs[k]? := by
  rw [cell_of_row _ _ _ _ _ _ (heap_alloc_new w (.cells cs t))]
end Go.Proofs.YtmgclgojmckfhaaGreatDoor.Tks
/-
  Marks among tokens: what a row of tokens becomes with marks, and without; that without their marks they are what they were, that no two marks stand side by side, each Begin first or behind a token that opens. No program is run here.
-/
namespace Go.Proofs.YtmgclgojmckfhaaGreatDoor.Mrk
open Tks Go.RowKit
set_option linter.unusedSimpArgs false
set_option linter.unusedVariables false

def empty : ByteArray := ⟨#[]⟩
def tx (t : Tk) : List UInt8 := t.text.data.toList
def braceT (t : Tk) : Bool := t.kind == 15 && tx t == [123]
def moduleT (t : Tk) : Bool := t.kind == 9 && tx t == [109, 111, 100, 117, 108, 101]
def beginM (t : Tk) : Tk := ⟨16, empty, t.line, t.col⟩
def lineM (t : Tk) : Tk := ⟨17, empty, t.line, t.col⟩
section
-- how many newlines a text has
variable (nl : ByteArray → Int)
/-- Does a token begin its line, behind another one? -/
def freshT (a b : Tk) : Bool := b.line != a.line && wrap64 (b.line - a.line) != nl a.text
/-- The mark ahead of a token: none, or one. -/
def ahead (first opens : Bool) (prev t : Tk) : List Tk :=
  if (opens && (!braceT t && (!first || !moduleT t))) = true then [beginM t] else if (first || freshT nl prev t) = true then [lineM t] else []
end
end Go.Proofs.YtmgclgojmckfhaaGreatDoor.Mrk
/-
  The document's own Opens, brace, fresh, Mark and Bare at any tokens. Conditions: at most 2^40 tokens; what the document's Lines answers is told by a hypothesis.
-/
namespace Go.Proofs.YtmgclgojmckfhaaGreatDoor.Mrk
open Tks Go.RowKit
set_option linter.unusedSimpArgs false
set_option linter.unusedVariables false

/-- Two blocks made, and draws. -/
theorem below_two (w : World) (o1 o2 : Obj) : Below w.heap.size w ((w.alloc o1).alloc o2) := by
  have h1 : Below w.heap.size w (w.alloc o1) := (Below.refl _ _).alloc (Nat.le_refl _) o1
  exact h1.alloc h1.size o2
def tkO (t : Tk) : Obj := .cells #[.int .i64 t.kind, .string t.text, .int .i64 t.line, .int .i64 t.col] 41
/-- Behind an append: what lay there lies there still, and the row is the call's own. -/
theorem grown_below {w W1 W2 : World} {v : Value} {l : List Tk} (ho : Own W1 w.heap.size v l) (h : Below w.heap.size w W1) (hg : W1.grownBy W2 v.ownBlock) : Below w.heap.size w W2 :=
  Below.grown h hg h.size (fun k hk => (World.ownsRow.lt ho k hk).1)
end Go.Proofs.YtmgclgojmckfhaaGreatDoor.Mrk
/-
  The layout algorithm over a row of marked tokens: what comes next, and what is open behind it; that from a state that may be only such states come; that all comes to an end. No program is run here.
-/
namespace Go.Proofs.YtmgclgojmckfhaaGreatDoor.Lay
open Tks Mrk Go.RowKit
set_option linter.unusedSimpArgs false
set_option linter.unusedVariables false

def zeroT : Tk := ⟨0, empty, 0, 0⟩
def atT (k : Int) (t : Tk) : Tk := ⟨k, empty, t.line, t.col⟩
def endT (k : Int) : Tk := ⟨k, empty, 0, 0⟩
def isOpen (t : Tk) : Bool := t.kind == 15 && tx t == [123]
def isShut (t : Tk) : Bool := t.kind == 15 && tx t == [125]
/-- The innermost block's column; 0: none, or one with braces. -/
def topL (o : List Int) : Int := o.getLast?.getD 0
/-- What comes next: the token, how far, what is open, what is waited for, the error. -/
structure Nx where
  tok : Tk
  at_ : Nat
  opn : List Int
  wait : Int
  err : Int
def nextR : List Tk → Nat → List Int → Int → Nx
  | [], i, o, w => if o = [] then ⟨endT 21, i, o, w, 0⟩ else if 0 < topL o then ⟨endT 20, i, o.dropLast, w, 0⟩ else ⟨zeroT, i, o, w, 90⟩
  | t :: r, i, o, w =>
    if t.kind = 16 ∧ w = 0 then (if topL o < t.col then ⟨atT 18 t, i + 1, o ++ [t.col], w, 0⟩ else ⟨atT 18 t, i, o, 1, 0⟩)
    else if t.kind = 16 ∧ w = 1 then ⟨atT 20 t, i, o, 2, 0⟩
    else if t.kind = 16 ∨ t.kind = 17 then
      (if 0 < topL o ∧ t.col < topL o then ⟨atT 20 t, i, o.dropLast, w, 0⟩
       else if 0 < topL o ∧ t.col = topL o then ⟨atT 19 t, i + 1, o, 0, 0⟩
       else nextR r (i + 1) o 0)
    else if isShut t = true then (if o = [] ∨ 0 < topL o then ⟨zeroT, i, o, w, 90⟩ else ⟨t, i + 1, o.dropLast, w, 0⟩)
    else if isOpen t = true then ⟨t, i + 1, o ++ [0], w, 0⟩
    else ⟨t, i + 1, o, w, 0⟩
def nextL (l : List Tk) (i : Nat) (o : List Int) (w : Int) : Nx := nextR (l.drop i) i o w

/-- A state that may be. -/
structure Ok (l : List Tk) (i : Nat) (o : List Int) (w : Int) : Prop where
  at_ : i ≤ l.length
  opn : ∀ c ∈ o, 0 ≤ c
  wlo : 0 ≤ w
  whi : w ≤ 2
  wat : 0 < w → ∃ t, l[i]? = some t ∧ t.kind = 16
theorem dropLast_mem {o : List Int} {c : Int} (h : c ∈ o.dropLast) : c ∈ o := List.dropLast_subset o h
theorem topL_nonneg {o : List Int} (h : ∀ c ∈ o, 0 ≤ c) : 0 ≤ topL o := by
  unfold topL
  cases e : o.getLast? with
  | none => exact Int.le_refl _
  | some c => exact h c (List.mem_of_getLast? e)
theorem top_ne {o : List Int} (h : 0 < topL o) : o ≠ [] := by
  intro e
  subst e
  simp [topL] at h
/-- One step: from a state that may be. -/
theorem nextR_ok (l : List Tk) : ∀ (r : List Tk) (i : Nat) (o : List Int) (w : Int), r = l.drop i → Ok l i o w → Ok l (nextR r i o w).at_ (nextR r i o w).opn (nextR r i o w).wait ∧ ((nextR r i o w).err = 0 ∨ (nextR r i o w).err = 90) := by
  intro r
  induction r with
  | nil =>
    intro i o w hr h
    unfold nextR
    split
    · exact ⟨h, .inl rfl⟩
    · split
      · exact ⟨⟨h.at_, fun c hc => h.opn c (dropLast_mem hc), h.wlo, h.whi, h.wat⟩, .inl rfl⟩
      · exact ⟨h, .inr rfl⟩
  | cons t r ih =>
    intro i o w hr h
    have hi : i < l.length := by
      rcases Nat.lt_or_ge i l.length with q | q
      · exact q
      · rw [List.drop_eq_nil_of_le q] at hr
        cases hr
    have hd : l.drop i = l[i] :: l.drop (i + 1) := List.drop_eq_getElem_cons hi
    rw [hd] at hr
    injection hr with ht hr
    have hti : l[i]? = some t := by rw [List.getElem?_eq_getElem hi, ht]
    have nw : ∀ j : Nat, 0 < (0 : Int) → ∃ t : Tk, l[j]? = some t ∧ t.kind = 16 := fun j q => absurd q (by decide)
    have hw0 : ¬ t.kind = 16 → w = 0 := by
      intro hk
      rcases Int.lt_or_le 0 w with q | q
      · obtain ⟨u, hu, hk2⟩ := h.wat q
        rw [hti] at hu
        cases hu
        exact absurd hk2 hk
      · have := h.wlo
        omega
    unfold nextR
    split
    · rename_i h1
      split
      · rename_i h2
        refine ⟨⟨by dsimp only; omega, fun c hc => ?_, h.wlo, h.whi, fun q => ?_⟩, .inl rfl⟩
        · dsimp only at hc
          rcases List.mem_append.1 hc with hc | hc
          · exact h.opn c hc
          · have := topL_nonneg h.opn
            simp at hc
            omega
        · dsimp only at q
          omega
      · exact ⟨⟨h.at_, h.opn, by (try dsimp only); omega, by (try dsimp only); omega, fun _ => ⟨t, hti, h1.1⟩⟩, .inl rfl⟩
    · split
      · rename_i h1
        exact ⟨⟨h.at_, h.opn, by (try dsimp only); omega, by (try dsimp only); omega, fun _ => ⟨t, hti, h1.1⟩⟩, .inl rfl⟩
      · split
        · split
          · exact ⟨⟨h.at_, fun c hc => h.opn c (dropLast_mem hc), h.wlo, h.whi, h.wat⟩, .inl rfl⟩
          · split
            · exact ⟨⟨by dsimp only; omega, h.opn, by (try dsimp only); omega, by (try dsimp only); omega, nw _⟩, .inl rfl⟩
            · exact ih (i + 1) o 0 hr ⟨by omega, h.opn, by (try dsimp only); omega, by (try dsimp only); omega, nw _⟩
        · rename_i h1 h2 h3
          have hwz : w = 0 := hw0 (fun e => h3 (.inl e))
          subst hwz
          split
          · split
            · exact ⟨h, .inr rfl⟩
            · exact ⟨⟨by dsimp only; omega, fun c hc => h.opn c (dropLast_mem hc), by (try dsimp only); omega, by (try dsimp only); omega, nw _⟩, .inl rfl⟩
          · split
            · refine ⟨⟨by dsimp only; omega, fun c hc => ?_, by (try dsimp only); omega, by (try dsimp only); omega, nw _⟩, .inl rfl⟩
              dsimp only at hc
              rcases List.mem_append.1 hc with hc | hc
              · exact h.opn c hc
              · simp at hc
                omega
            · exact ⟨⟨by dsimp only; omega, h.opn, by (try dsimp only); omega, by (try dsimp only); omega, nw _⟩, .inl rfl⟩
theorem next_ok {l : List Tk} {i : Nat} {o : List Int} {w : Int} (h : Ok l i o w) : Ok l (nextL l i o w).at_ (nextL l i o w).opn (nextL l i o w).wait ∧ ((nextL l i o w).err = 0 ∨ (nextL l i o w).err = 90) := nextR_ok l _ i o w rfl h
/-- How many steps are left at most. -/
def left (l : List Tk) (i : Nat) (o : List Int) (w : Int) : Nat := 5 * (l.length - i) + o.length + (2 - w).toNat
theorem nextR_less (l : List Tk) : ∀ (r : List Tk) (i : Nat) (o : List Int) (w : Int), r = l.drop i → Ok l i o w → (nextR r i o w).err = 0 → (nextR r i o w).tok.kind ≠ 21 → left l (nextR r i o w).at_ (nextR r i o w).opn (nextR r i o w).wait < left l i o w := by
  intro r
  induction r with
  | nil =>
    intro i o w hr h
    unfold nextR
    split
    · intro _ q
      exact absurd rfl q
    · split
      · rename_i ho _
        intro _ _
        have : 0 < o.length := List.length_pos_iff.2 ho
        unfold left
        rw [List.length_dropLast]
        dsimp only
        omega
      · intro q
        cases q
  | cons t r ih =>
    intro i o w hr h
    have hi : i < l.length := by
      rcases Nat.lt_or_ge i l.length with q | q
      · exact q
      · rw [List.drop_eq_nil_of_le q] at hr
        cases hr
    have hd : l.drop i = l[i] :: l.drop (i + 1) := List.drop_eq_getElem_cons hi
    rw [hd] at hr
    injection hr with ht hr
    have hlo := h.wlo
    have hhi := h.whi
    unfold nextR
    split
    · split
      · intro _ _
        unfold left
        rw [List.length_append, List.length_singleton]
        dsimp only
        omega
      · intro _ _
        unfold left
        dsimp only
        omega
    · split
      · intro _ _
        unfold left
        dsimp only
        omega
      · split
        · split
          · rename_i ho
            intro _ _
            have : 0 < o.length := List.length_pos_iff.2 (top_ne ho.1)
            unfold left
            rw [List.length_dropLast]
            dsimp only
            omega
          · split
            · intro _ _
              unfold left
              dsimp only
              omega
            · intro e k
              have nw : 0 < (0 : Int) → ∃ t : Tk, l[i + 1]? = some t ∧ t.kind = 16 := fun q => absurd q (by decide)
              have := ih (i + 1) o 0 hr ⟨by omega, h.opn, by decide, by decide, nw⟩ e k
              unfold left at this ⊢
              omega
        · split
          · split
            · intro q
              cases q
            · intro _ _
              unfold left
              rw [List.length_dropLast]
              dsimp only
              omega
          · split
            · intro _ _
              unfold left
              rw [List.length_append, List.length_singleton]
              dsimp only
              omega
            · intro _ _
              unfold left
              dsimp only
              omega
theorem next_less {l : List Tk} {i : Nat} {o : List Int} {w : Int} (h : Ok l i o w) (he : (nextL l i o w).err = 0) (hk : (nextL l i o w).tok.kind ≠ 21) :
    left l (nextL l i o w).at_ (nextL l i o w).opn (nextL l i o w).wait < left l i o w := nextR_less l _ i o w rfl h he hk
end Go.Proofs.YtmgclgojmckfhaaGreatDoor.Lay
/-
  What comes of a row of tokens, all in all: without what nobody wrote it is the row without its marks; blocks nest. No program is run here.
-/
namespace Go.Proofs.YtmgclgojmckfhaaGreatDoor.Lay
open Tks Mrk Go.RowKit
set_option linter.unusedSimpArgs false
set_option linter.unusedVariables false

theorem drop_cons {l r : List Tk} {i : Nat} {t : Tk} (h : t :: r = l.drop i) : l[i]? = some t ∧ r = l.drop (i + 1) ∧ i < l.length := by
  have hi : i < l.length := by
    rcases Nat.lt_or_ge i l.length with q | q
    · exact q
    · rw [List.drop_eq_nil_of_le q] at h
      cases h
  have hd : l.drop i = l[i] :: l.drop (i + 1) := List.drop_eq_getElem_cons hi
  rw [hd] at h
  injection h with h1 h2
  exact ⟨by rw [List.getElem?_eq_getElem hi, h1], h2, hi⟩
end Go.Proofs.YtmgclgojmckfhaaGreatDoor.Lay
/-
  Slices of ints that are only read, states as they are read, rows of ints of the call's own. No condition but sizes.
-/
namespace Go.Proofs.YtmgclgojmckfhaaGreatDoor.Lay
open Tks Mrk Go.RowKit
set_option linter.unusedSimpArgs false
set_option linter.unusedVariables false

/-- The ints that a slice holds. -/
def IntArg (w : World) (v : Value) (l : List Int) : Prop :=
  (l = [] ∧ ∃ a c, v = .slice a 0 c) ∨
  (∃ b off c, v = .slice (some ⟨b, off, none⟩) l.length c ∧ l.length ≤ c ∧ b < w.heap.size ∧ ∀ (i : Nat) (x : Int), l[i]? = some x → w.cell? ⟨b, off + i, none⟩ = some (.int .i64 x))
theorem IntArg.len {w : World} {v : Value} {l : List Int} (h : IntArg w v l) : ∃ a c, v = .slice a l.length c := by
  rcases h with ⟨rfl, a, c, rfl⟩ | ⟨b, off, c, rfl, -⟩
  · exact ⟨a, c, rfl⟩
  · exact ⟨_, c, rfl⟩
theorem IntArg.below {w w' : World} {v : Value} {l : List Int} {B : Nat} (h : IntArg w v l) (hb : Below B w w') (hB : w.heap.size ≤ B) : IntArg w' v l := by
  rcases h with h | ⟨b, off, c, hv, hlc, hlt, hc⟩
  · exact .inl h
  · exact .inr ⟨b, off, c, hv, hlc, Nat.lt_of_lt_of_le hlt hb.size, fun i x hx => (World.cell?_of_block (hb.block b (Nat.lt_of_lt_of_le hlt hB))).trans (hc i x hx)⟩
theorem IntArg.cells {w : World} {v : Value} {l : List Int} (h : IntArg w v l) (hl : l.length ≠ 0) : ∃ b off c, v = .slice (some ⟨b, off, none⟩) l.length c ∧ l.length ≤ c ∧ b < w.heap.size ∧ ∀ (i : Nat) (x : Int), l[i]? = some x → w.cell? ⟨b, off + i, none⟩ = some (.int .i64 x) := by
  rcases h with ⟨rfl, -⟩ | h
  · exact absurd rfl hl
  · exact h
/-- A beginning of what a slice holds. -/
theorem IntArg.take {w : World} {b off c n : Nat} {l : List Int} (hlc : l.length ≤ c) (hlt : b < w.heap.size) (hc : ∀ (i : Nat) (x : Int), l[i]? = some x → w.cell? ⟨b, off + i, none⟩ = some (.int .i64 x)) (hn : n ≤ l.length) : IntArg w (.slice (some ⟨b, off, none⟩) n c) (l.take n) := by
  refine .inr ⟨b, off, c, by rw [List.length_take, Nat.min_eq_left hn], by rw [List.length_take]; omega, hlt, fun i x hx => hc i x ?_⟩
  rw [List.getElem?_take] at hx
  split at hx
  · exact hx
  · cases hx
theorem infoIntL : (Tryz.prog.info? 3).map (fun i => (i.zero, i.size, i.bytes)) = some (some (.int .i64 0), 1, 8) := by kernel_rfl
/-- A row of ints of the call's own. -/
def IntOwn (w : World) (B : Nat) (v : Value) (l : List Int) : Prop := w.ownsRow B 3 1 v l.length (l.map (Value.int .i64))
theorem IntOwn.nil (w : World) (B : Nat) : IntOwn w B (.slice none 0 0) [] := World.ownsRow_nil _ _ _ _
theorem IntOwn.arg {w : World} {B : Nat} {v : Value} {l : List Int} (h : IntOwn w B v l) : IntArg w v l := by
  rcases h.2 with ⟨rfl, h0⟩ | ⟨g, cap, cur, rfl, hb, hg, hnc, _⟩
  · obtain rfl : l = [] := List.eq_nil_of_length_eq_zero h0
    exact .inl ⟨rfl, _, _, rfl⟩
  · refine .inr ⟨g, 0, cap, rfl, hnc, lt_of_block hg, fun i x hx => ?_⟩
    have := World.ownsRow.cells h (g := g) rfl i (.int .i64 x) (by rw [List.getElem?_map, hx]; rfl)
    rw [add_plain] at this
    rw [Nat.zero_add]
    exact this
theorem IntOwn.below {w w' : World} {B C : Nat} {v : Value} {l : List Int} (h : IntOwn w B v l) (hb : Below C w w') (hC : w.heap.size ≤ C) : IntOwn w' B v l := by
  have hg : w.grownBy w' none := ⟨hb.os, hb.tape, hb.output, hb.size, fun k hk _ => hb.block k (by omega)⟩
  rcases hv : v.ownBlock with _ | g
  · exact World.ownsRow.kept h hg (.inl hv)
  · exact World.ownsRow.kept h hg (.inr (by rw [hv]; simp))
/-- A state as it is read. -/
structure Sx where
  toks : List Tk
  at_ : Int
  opn : List Int
  wait : Int
def zeroS : Sx := ⟨[], 0, [], 0⟩
def StV (w : World) (v : Value) (s : Sx) : Prop := ∃ vt vo, v = .agg #[vt, .int .i64 s.at_, vo, .int .i64 s.wait] ∧ TkArg w vt s.toks ∧ IntArg w vo s.opn
theorem StV.below {w w' : World} {v : Value} {s : Sx} {B : Nat} (h : StV w v s) (hb : Below B w w') (hB : w.heap.size ≤ B) : StV w' v s := by
  obtain ⟨vt, vo, e, h1, h2⟩ := h
  exact ⟨vt, vo, e, h1.below hb hB, h2.below hb hB⟩
theorem StV.zero (w : World) : StV w (.agg #[.slice none 0 0, .int .i64 0, .slice none 0 0, .int .i64 0]) zeroS := ⟨_, _, rfl, .inl ⟨rfl, _, _, rfl⟩, .inl ⟨rfl, _, _, rfl⟩⟩
/-- May a state be? -/
def okB (s : Sx) : Bool := decide (0 ≤ s.at_) && decide (s.at_ ≤ s.toks.length) && decide (0 ≤ s.wait) && decide (s.wait ≤ 2) && (decide (s.wait ≤ 0) || (match s.toks[s.at_.toNat]? with | some t => t.kind == 16 | none => false)) && s.opn.all (fun c => decide (0 ≤ c))
theorem okB_iff (s : Sx) : okB s = true ↔ ∃ n : Nat, s.at_ = n ∧ Ok s.toks n s.opn s.wait := by
  unfold okB
  simp only [Bool.and_eq_true, Bool.or_eq_true, decide_eq_true_eq, List.all_eq_true]
  constructor
  · rintro ⟨⟨⟨⟨⟨h1, h2⟩, h3⟩, h4⟩, h5⟩, h6⟩
    refine ⟨s.at_.toNat, by omega, by omega, h6, h3, h4, fun q => ?_⟩
    rcases h5 with h5 | h5
    · omega
    · cases e : s.toks[s.at_.toNat]? with
      | none => rw [e] at h5; cases h5
      | some t =>
        rw [e] at h5
        exact ⟨t, rfl, beq_iff_eq.1 h5⟩
  · rintro ⟨n, e, h⟩
    have hn : s.at_.toNat = n := by omega
    refine ⟨⟨⟨⟨⟨by omega, by have := h.at_; omega⟩, h.wlo⟩, h.whi⟩, ?_⟩, h.opn⟩
    rcases Int.lt_or_le 0 s.wait with q | q
    · obtain ⟨t, ht, hk⟩ := h.wat q
      rw [hn, ht]
      exact .inr (beq_iff_eq.2 hk)
    · exact .inl q
/-- What Next, Close and All answer. -/
def nextS (s : Sx) : Tk × Sx × Int := if okB s = true then (let n := nextL s.toks s.at_.toNat s.opn s.wait; (n.tok, ⟨s.toks, n.at_, n.opn, n.wait⟩, n.err)) else (zeroT, zeroS, 1)
/-- Sizes that are borne. -/
def Fit9 (s : Sx) : Prop := s.toks.length ≤ 1099511627776 ∧ s.opn.length ≤ 1099511627776
def tkV9 (t : Tk) : Value := .agg #[.int .i64 t.kind, .string t.text, .int .i64 t.line, .int .i64 t.col]
def NextOut (W : World) (s : Sx) (e : Ending) (w' : World) : Prop := ∃ v, e = .returned (.tuple #[tkV9 (nextS s).1, v, .int .i64 (nextS s).2.2]) ∧ StV w' v (nextS s).2.1 ∧ Below W.heap.size W w'
end Go.Proofs.YtmgclgojmckfhaaGreatDoor.Lay
