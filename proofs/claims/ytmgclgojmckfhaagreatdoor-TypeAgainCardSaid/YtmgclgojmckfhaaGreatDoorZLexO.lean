/-
  Rows of tokens and of comments that a call owns: what lies in them, how they grow by one. No condition but sizes.
-/
import Derived.Test.YtmgclgojmckfhaaGreatDoorZMthB
import Derived.Test.YtmgclgojmckfhaaGreatDoorRows
import Derived.Test.YtmgclgojmckfhaaGreatDoorZPlcL
import Derived.Test.YtmgclgojmckfhaaGreatDoorZGlyB
import Derived.Test.YtmgclgojmckfhaaGreatDoorZNumR
import Derived.Test.YtmgclgojmckfhaaGreatDoorZWrdA
import Derived.Test.YtmgclgojmckfhaaGreatDoorZQtD
import Derived.Test.YtmgclgojmckfhaaGreatDoorZNotB
import Derived.WalkKit
import Derived.OwnWalk
import Derived.Laws.OwnMore
import Derived.Maps.AppendAt
import Derived.Deep.AppendLies
import Derived.Lib.Hide
import Derived.Deep.Draws
import Derived.Deep.QuietTactic
import Derived.BigQuiet
import Derived.LoopTactic
import Derived.Handy
import Derived.Laws.RangeAny
namespace Go.Proofs.YtmgclgojmckfhaaGreatDoor.Lx
open Go.RowKit Gly
set_option linter.unusedSimpArgs false
set_option linter.unusedVariables false

theorem infoTok : (Tryz.prog.info? 41).map (fun i => (i.zero, i.size, i.bytes)) = some (some (.agg #[.int .i64 0, .string ⟨#[]⟩, .int .i64 0, .int .i64 0]), 4, 40) := by kernel_rfl
theorem infoNote : (Tryz.prog.info? 94).map (fun i => (i.zero, i.size, i.bytes)) = some (some (.agg #[.string ⟨#[]⟩, .int .i64 0, .int .i64 0, .int .i64 0, .int .i64 0]), 5, 48) := by kernel_rfl
/-- A token's cells; a comment's. -/
def tokC (s : ByteArray) (t : It) : List Value := [.int .i64 t.kind, .string (txt s t), .int .i64 (lineS s t.fr), .int .i64 (colS s t.fr)]
def noteC (s : ByteArray) (n : Nt) : List Value := [.string (txt s n.it), .int .i64 ((n.gap : Nat) : Int), .int .i64 n.pl, .int .i64 (lineS s n.it.fr), .int .i64 (colS s n.it.fr)]
def Toks (s : ByteArray) (w : World) (B : Nat) (v : Value) (l : List It) : Prop := w.ownsRow B 41 4 v l.length (l.flatMap (tokC s))
def Notes (s : ByteArray) (w : World) (B : Nat) (v : Value) (l : List Nt) : Prop := w.ownsRow B 94 5 v l.length (l.flatMap (noteC s))
theorem Toks.nil (s : ByteArray) (w : World) (B : Nat) : Toks s w B (.slice none 0 0) [] := World.ownsRow_nil _ _ _ _
theorem Notes.nil (s : ByteArray) (w : World) (B : Nat) : Notes s w B (.slice none 0 0) [] := World.ownsRow_nil _ _ _ _
theorem Toks.kept {s : ByteArray} {w w' : World} {B : Nat} {v : Value} {l : List It} {row : Option Nat} (h : Toks s w B v l) (hg : w.grownBy w' row) (hne : v.ownBlock = none ∨ v.ownBlock ≠ row) : Toks s w' B v l := World.ownsRow.kept h hg hne
theorem Notes.kept {s : ByteArray} {w w' : World} {B : Nat} {v : Value} {l : List Nt} {row : Option Nat} (h : Notes s w B v l) (hg : w.grownBy w' row) (hne : v.ownBlock = none ∨ v.ownBlock ≠ row) : Notes s w' B v l := World.ownsRow.kept h hg hne
theorem below_grown {w w' : World} {B : Nat} (h : Below B w w') (hB : w.heap.size ≤ B) : w.grownBy w' none := ⟨h.os, h.tape, h.output, h.size, fun k hk _ => h.block k (by omega)⟩
theorem Toks.below {s : ByteArray} {w w' : World} {B C : Nat} {v : Value} {l : List It} (h : Toks s w B v l) (hb : Below C w w') (hC : w.heap.size ≤ C) : Toks s w' B v l := by
  rcases hv : v.ownBlock with _ | g
  · exact h.kept (below_grown hb hC) (.inl hv)
  · exact h.kept (below_grown hb hC) (.inr (by rw [hv]; simp))
theorem Notes.below {s : ByteArray} {w w' : World} {B C : Nat} {v : Value} {l : List Nt} (h : Notes s w B v l) (hb : Below C w w') (hC : w.heap.size ≤ C) : Notes s w' B v l := by
  rcases hv : v.ownBlock with _ | g
  · exact h.kept (below_grown hb hC) (.inl hv)
  · exact h.kept (below_grown hb hC) (.inr (by rw [hv]; simp))
theorem add_plain (g j : Nat) : (⟨g, 0, none⟩ : Addr).add j = ⟨g, j, none⟩ := by unfold Addr.add; split <;> simp_all
/-! ### The last comment's place -/

theorem flat_at {α : Type} (f : α → List Value) (k : Nat) (hf : ∀ x, (f x).length = k) : ∀ (l : List α) (i j : Nat) (x : α), l[i]? = some x → j < k → (l.flatMap f)[i * k + j]? = (f x)[j]?
  | [], i, j, x, h, _ => by simp at h
  | y :: l, 0, j, x, h, hj => by
    simp at h
    subst h
    rw [List.flatMap_cons, Nat.zero_mul, Nat.zero_add, List.getElem?_append_left (by rw [hf]; exact hj)]
  | y :: l, i + 1, j, x, h, hj => by
    have := flat_at f k hf l i j x (by simpa using h) hj
    rw [List.flatMap_cons, List.getElem?_append_right (by rw [hf, Nat.succ_mul]; omega), hf, Nat.succ_mul, show i * k + k + j - k = i * k + j by omega]
    exact this
theorem flat_len {α : Type} (f : α → List Value) (k : Nat) (hf : ∀ x, (f x).length = k) : ∀ l : List α, (l.flatMap f).length = l.length * k
  | [] => by simp
  | y :: l => by rw [List.flatMap_cons, List.length_append, hf, flat_len f k hf l, List.length_cons, Nat.succ_mul, Nat.add_comm]
theorem noteC_len (s : ByteArray) (n : Nt) : (noteC s n).length = 5 := rfl
theorem tokC_len (s : ByteArray) (t : It) : (tokC s t).length = 4 := rfl
theorem flat_setLast (s : ByteArray) (x : Int) (m : Nt) (l : List Nt) : (setLast x (l ++ [m])).flatMap (noteC s) = ((l ++ [m]).flatMap (noteC s)).set (l.length * 5 + 2) (.int .i64 x) := by
  rw [setLast_app, List.flatMap_append, List.flatMap_append, List.set_append_right _ _ (by rw [flat_len _ 5 (noteC_len s)]; omega), flat_len _ 5 (noteC_len s), show l.length * 5 + 2 - l.length * 5 = 2 by omega]
  congr 1
/-- A row's block, and a cell of it. -/
theorem Notes.form {s : ByteArray} {w : World} {B : Nat} {v : Value} {l : List Nt} (h : Notes s w B v l) (hn : 0 < l.length) : ∃ g cap, v = .slice (some ⟨g, 0, none⟩) l.length cap ∧ B ≤ g ∧ g < w.heap.size := World.ownsRow.form h hn
theorem Toks.form {s : ByteArray} {w : World} {B : Nat} {v : Value} {l : List It} (h : Toks s w B v l) (hn : 0 < l.length) : ∃ g cap, v = .slice (some ⟨g, 0, none⟩) l.length cap ∧ B ≤ g ∧ g < w.heap.size := World.ownsRow.form h hn
theorem Toks.cell {s : ByteArray} {w : World} {B g n cap : Nat} {l : List It} (h : Toks s w B (.slice (some ⟨g, 0, none⟩) n cap) l) (i j : Nat) (t : It) (ht : l[i]? = some t) (hj : j < 4) : w.cell? ⟨g, i * 4 + j, none⟩ = (tokC s t)[j]? := by
  have h0 := flat_at (tokC s) 4 (tokC_len s) l i j t ht hj
  obtain ⟨u, hu⟩ : ∃ u, (tokC s t)[j]? = some u := ⟨_, List.getElem?_eq_getElem (by rw [tokC_len]; exact hj)⟩
  rw [hu] at h0 ⊢
  have := World.ownsRow.cells h (g := g) rfl _ _ h0
  rw [add_plain] at this
  exact this
theorem Notes.cell {s : ByteArray} {w : World} {B g n cap : Nat} {l : List Nt} (h : Notes s w B (.slice (some ⟨g, 0, none⟩) n cap) l) (i j : Nat) (t : Nt) (ht : l[i]? = some t) (hj : j < 5) : w.cell? ⟨g, i * 5 + j, none⟩ = (noteC s t)[j]? := by
  have h0 := flat_at (noteC s) 5 (noteC_len s) l i j t ht hj
  obtain ⟨u, hu⟩ : ∃ u, (noteC s t)[j]? = some u := ⟨_, List.getElem?_eq_getElem (by rw [noteC_len]; exact hj)⟩
  rw [hu] at h0 ⊢
  have := World.ownsRow.cells h (g := g) rfl _ _ h0
  rw [add_plain] at this
  exact this
/-- The last comment told where it stands: one cell is written. -/
theorem Notes.set {s : ByteArray} {w : World} {B g cap : Nat} {l : List Nt} (h : Notes s w B (.slice (some ⟨g, 0, none⟩) l.length cap) l) (hl : 0 < l.length) (x : Int) : Notes s (w.setCell ⟨g, (l.length - 1) * 5 + 2, none⟩ (.int .i64 x)) B (.slice (some ⟨g, 0, none⟩) l.length cap) (setLast x l) := by
  rcases List.eq_nil_or_concat l with rfl | ⟨r, m, hrm⟩
  · simp at hl
  · rw [List.concat_eq_append] at hrm
    subst hrm
    have e : (r ++ [m]).length = r.length + 1 := by simp
    have := World.ownsRow.stored h ((r ++ [m]).length - 1 |>.mul 5 |>.add 2) (.int .i64 x)
    unfold Notes
    rw [setLast_len, flat_setLast]
    have e2 : ((r ++ [m]).length - 1) * 5 + 2 = r.length * 5 + 2 := by omega
    rw [e2]
    have e3 : ((r ++ [m]).length - 1 |>.mul 5 |>.add 2) = r.length * 5 + 2 := by
      show ((r ++ [m]).length - 1) * 5 + 2 = _
      exact e2
    rw [e3] at this
    exact this.1
theorem setCell_other {w : World} {k : Nat} {a : Addr} {o : Obj} {u : Value} (h : w.heap[k]? = some o) (hk : k ≠ a.block) : (w.setCell a u).heap[k]? = some o := by
  rw [Below.heap_setCell _ _ _ _ hk]
  exact h
end Go.Proofs.YtmgclgojmckfhaaGreatDoor.Lx
/-
  Slices of tokens that are only read, and the contracts of package lexer's Same and of the document's own Same over them. Condition: fewer than 2^40 tokens.
-/
namespace Go.Proofs.YtmgclgojmckfhaaGreatDoor.Lx
open Go.RowKit Gly
set_option linter.unusedSimpArgs false
set_option linter.unusedVariables false

/-- A token as it is read. -/
structure Tk where
  kind : Int
  text : ByteArray
  line : Int
  col : Int
def tkC (t : Tk) : List Value := [.int .i64 t.kind, .string t.text, .int .i64 t.line, .int .i64 t.col]
/-- The tokens that a slice holds. -/
def TkArg (w : World) (v : Value) (l : List Tk) : Prop :=
  (l = [] ∧ ∃ a c, v = .slice a 0 c) ∨
  (∃ b off c, v = .slice (some ⟨b, off, none⟩) l.length c ∧ b < w.heap.size ∧ ∀ (i : Nat) (t : Tk), l[i]? = some t → ∀ k : Nat, k < 4 → w.cell? ⟨b, off + i * 4 + k, none⟩ = (tkC t)[k]?)
theorem TkArg.below {w w' : World} {v : Value} {l : List Tk} {B : Nat} (h : TkArg w v l) (hb : Below B w w') (hB : w.heap.size ≤ B) : TkArg w' v l := by
  rcases h with h | ⟨b, off, c, hv, hlt, hc⟩
  · exact .inl h
  · exact .inr ⟨b, off, c, hv, Nat.lt_of_lt_of_le hlt hb.size, fun i t ht k hk => (World.cell?_of_block (hb.block b (Nat.lt_of_lt_of_le hlt hB))).trans (hc i t ht k hk)⟩
theorem TkArg.four {w : World} {b off c n : Nat} {l : List Tk} (h : ∀ (i : Nat) (t : Tk), l[i]? = some t → ∀ k : Nat, k < 4 → w.cell? ⟨b, off + i * 4 + k, none⟩ = (tkC t)[k]?) (i : Nat) (t : Tk) (ht : l[i]? = some t) :
    w.cell? ⟨b, off + i * 4, none⟩ = some (.int .i64 t.kind) ∧ w.cell? ⟨b, off + i * 4 + 1, none⟩ = some (.string t.text) ∧ w.cell? ⟨b, off + i * 4 + 2, none⟩ = some (.int .i64 t.line) ∧ w.cell? ⟨b, off + i * 4 + 3, none⟩ = some (.int .i64 t.col) :=
  ⟨h i t ht 0 (by omega), h i t ht 1 (by omega), h i t ht 2 (by omega), h i t ht 3 (by omega)⟩
/-- What the tokens of a row are, read. -/
def tkOf (s : ByteArray) (t : It) : Tk := ⟨t.kind, txt s t, lineS s t.fr, colS s t.fr⟩
theorem Toks.arg {s : ByteArray} {w : World} {B : Nat} {v : Value} {l : List It} (h : Toks s w B v l) : TkArg w v (l.map (tkOf s)) := by
  by_cases hl : 0 < l.length
  · obtain ⟨g, c, rfl, _, hlt⟩ := h.form hl
    refine .inr ⟨g, 0, c, by rw [List.length_map], hlt, fun i t ht k hk => ?_⟩
    rw [List.getElem?_map] at ht
    obtain ⟨u, hu, rfl⟩ := Option.map_eq_some_iff.1 ht
    rw [Nat.zero_add]
    exact h.cell i k u hu hk
  · obtain rfl : l = [] := List.eq_nil_of_length_eq_zero (by omega)
    rcases h.2 with ⟨rfl, _⟩ | ⟨g, cap, cur, rfl, _⟩
    · exact .inl ⟨rfl, _, _, rfl⟩
    · exact .inl ⟨rfl, _, _, rfl⟩
theorem idx_at (k n : Nat) (h : k < n) (hm : n ≤ 1099511627776) : wrap64 ((k : Int) + 1) = (k : Int) + 1 := by
  have h1 : (k : Int) ≤ 1099511627776 := by omega
  have h2 : (0 : Int) ≤ (k : Int) := by omega
  generalize (k : Int) = z at h1 h2 ⊢
  unfold wrap64
  omega
theorem TkArg.len {w : World} {v : Value} {l : List Tk} (h : TkArg w v l) : ∃ a c, v = .slice a l.length c := by
  rcases h with ⟨rfl, a, c, rfl⟩ | ⟨b, off, c, rfl, -⟩
  · exact ⟨a, c, rfl⟩
  · exact ⟨_, c, rfl⟩
theorem TkArg.cells {w : World} {v : Value} {l : List Tk} (h : TkArg w v l) (hl : l.length ≠ 0) : ∃ b off c, v = .slice (some ⟨b, off, none⟩) l.length c ∧ b < w.heap.size ∧ ∀ (i : Nat) (t : Tk), l[i]? = some t → ∀ k : Nat, k < 4 → w.cell? ⟨b, off + i * 4 + k, none⟩ = (tkC t)[k]? := by
  rcases h with ⟨rfl, -⟩ | h
  · exact absurd rfl hl
  · exact h
/-- Cells that a later world still holds. -/
def TkIn (w : World) (b off : Nat) (l : List Tk) : Prop := b < w.heap.size ∧ ∀ (i : Nat) (t : Tk), l[i]? = some t → ∀ k : Nat, k < 4 → w.cell? ⟨b, off + i * 4 + k, none⟩ = (tkC t)[k]?
theorem TkIn.below {w w' : World} {b off : Nat} {l : List Tk} {B : Nat} (h : TkIn w b off l) (hb : Below B w w') (hB : w.heap.size ≤ B) : TkIn w' b off l :=
  ⟨Nat.lt_of_lt_of_le h.1 hb.size, fun i t ht k hk => (World.cell?_of_block (hb.block b (Nat.lt_of_lt_of_le h.1 hB))).trans (h.2 i t ht k hk)⟩
theorem TkIn.four {w : World} {b off : Nat} {l : List Tk} (h : TkIn w b off l) (i : Nat) (t : Tk) (ht : l[i]? = some t) :
    w.cell? ⟨b, off + i * 4, none⟩ = some (.int .i64 t.kind) ∧ w.cell? ⟨b, off + i * 4 + 1, none⟩ = some (.string t.text) ∧ w.cell? ⟨b, off + i * 4 + 2, none⟩ = some (.int .i64 t.line) ∧ w.cell? ⟨b, off + i * 4 + 3, none⟩ = some (.int .i64 t.col) :=
  ⟨h.2 i t ht 0 (by omega), h.2 i t ht 1 (by omega), h.2 i t ht 2 (by omega), h.2 i t ht 3 (by omega)⟩
end Go.Proofs.YtmgclgojmckfhaaGreatDoor.Lx
/-
  The contracts of the document's own blanks, runes, lexeme and Counts for the lexer. Condition: the string has at most 2^43 bytes.
-/
namespace Go.Proofs.YtmgclgojmckfhaaGreatDoor.Lx
open Go.RowKit Gly
open Wrd (rn wd)
set_option linter.unusedSimpArgs false
set_option linter.unusedVariables false

theorem check_no (s : ByteArray) (h : ¬ checkN s < s.size) : checkE s = 0 := by unfold checkE; rw [if_neg h]
theorem check_yes (s : ByteArray) (h : checkN s < s.size) : checkE s = 10 := by unfold checkE; rw [if_pos h]
/-! ### Lexemes -/

/-- The lexeme at a byte: its kind, where it ends (or where the error is), the error. -/
def lexI (s : ByteArray) (j : Nat) : Int × Nat × Int := ((lexL (rest s j)).1, j + (lexL (rest s j)).2.1, (lexL (rest s j)).2.2)
theorem num_at (s : ByteArray) (j : Nat) (hj : j < s.size) : Num.scanN s (j : Int) = if (Num.readL (rest s j)).kind = 0 then (0, 0) else ((Num.readL (rest s j)).kind, j + (Num.readL (rest s j)).fin) := by
  unfold Num.scanN
  rw [if_pos (by omega), Int.toNat_natCast]
  rfl
theorem qt_at (s : ByteArray) (j : Nat) : Qt.scanI s (j : Int) = if Qt.quoted (rest s j) = true then ((if (Qt.readL (rest s j)).err = 0 then (if Qt.hd (rest s j) = 39 then 13 else 14) else 0), ((j + 1 + (Qt.readL (rest s j)).pos : Nat) : Int), (Qt.readL (rest s j)).err) else (0, 0, 0) := by
  unfold Qt.scanI
  rw [if_pos (by omega), Int.toNat_natCast]
  rfl
theorem wrd_at (s : ByteArray) (j : Nat) (hj : j < s.size) : ((Wrd.scanI s (j : Int)).1, (Wrd.scanI s (j : Int)).2.1) = if (Wrd.scan (rest s j)).1 = 0 then ((0 : Int), (0 : Int)) else ((Wrd.scan (rest s j)).1, ((j + (Wrd.scan (rest s j)).2.1 : Nat) : Int)) := by
  unfold Wrd.scanI
  rw [if_pos (by omega), Int.toNat_natCast]
  unfold Wrd.lexI
  rw [show Wrd.rest s j = rest s j from rfl]
  split <;> rfl
/-- What the three scanners say, put together. -/
theorem lex_ways (s : ByteArray) (j : Nat) (hj : j < s.size) :
    (((Num.scanN s (j : Int)).1 ≠ 0 ∧ lexI s j = (((Num.scanN s (j : Int)).1 : Int), (Num.scanN s (j : Int)).2, 0))) ∨
    ((Num.scanN s (j : Int)).1 = 0 ∧ ((Qt.scanI s (j : Int)).1 ≠ 0 ∨ (Qt.scanI s (j : Int)).2.2 ≠ 0) ∧ ((Qt.scanI s (j : Int)).1, (Qt.scanI s (j : Int)).2.1, (Qt.scanI s (j : Int)).2.2) = ((lexI s j).1, (((lexI s j).2.1 : Nat) : Int), (lexI s j).2.2)) ∨
    ((Num.scanN s (j : Int)).1 = 0 ∧ (Qt.scanI s (j : Int)).1 = 0 ∧ (Qt.scanI s (j : Int)).2.2 = 0 ∧ (Wrd.scanI s (j : Int)).1 ≠ 0 ∧ ((Wrd.scanI s (j : Int)).1, (Wrd.scanI s (j : Int)).2.1) = ((lexI s j).1, (((lexI s j).2.1 : Nat) : Int)) ∧ (lexI s j).2.2 = 0) ∨
    ((Num.scanN s (j : Int)).1 = 0 ∧ (Qt.scanI s (j : Int)).1 = 0 ∧ (Qt.scanI s (j : Int)).2.2 = 0 ∧ (Wrd.scanI s (j : Int)).1 = 0 ∧ lexI s j = (0, j, 70)) := by
  have h1 := num_at s j hj
  have h2 := qt_at s j
  have h3 := wrd_at s j hj
  have h30 : (Wrd.scanI s (j : Int)).1 = (if (Wrd.scan (rest s j)).1 = 0 then ((0 : Int), (0 : Int)) else ((Wrd.scan (rest s j)).1, ((j + (Wrd.scan (rest s j)).2.1 : Nat) : Int))).1 := by rw [← h3]
  rw [h1, h2, h3, h30]
  unfold lexI lexL
  by_cases k1 : (Num.readL (rest s j)).kind = 0
  · rw [if_pos k1, if_neg (show ¬ (Num.readL (rest s j)).kind ≠ 0 from fun h => h k1)]
    cases hq : Qt.quoted (rest s j) with
    | true =>
      rw [if_pos rfl, if_pos rfl]
      refine .inr (.inl ⟨rfl, ?_, ?_⟩)
      · dsimp only
        by_cases z : (Qt.readL (rest s j)).err = 0
        · rw [if_pos z]
          left
          split <;> decide
        · exact .inr z
      · dsimp only
        rw [show j + 1 + (Qt.readL (rest s j)).pos = j + (1 + (Qt.readL (rest s j)).pos) by omega]
    | false =>
      simp only [Bool.false_eq_true, if_false]
      by_cases k3 : (Wrd.scan (rest s j)).1 = 0
      · rw [if_pos k3, if_neg (show ¬ (Wrd.scan (rest s j)).1 ≠ 0 from fun h => h k3)]
        simp
      · rw [if_neg k3, if_pos k3]
        simp [k3]
  · rw [if_neg k1, if_pos k1]
    exact .inl ⟨k1, rfl⟩
end Go.Proofs.YtmgclgojmckfhaaGreatDoor.Lx
/-
  The contract of package lexer's check (the text's size and its runes) and of counts. Condition: the string has at most 2^50 bytes.
-/
namespace Go.Proofs.YtmgclgojmckfhaaGreatDoor.Lx
open Go.RowKit Gly
open Wrd (rn wd)
set_option linter.unusedSimpArgs false
set_option linter.unusedVariables false

theorem lexcheck_any (s : ByteArray) (hs : s.size ≤ 1125899906842624) (w : World) :
    Calls Tryz.prog 11 #[.string s] w fun e w' => e = .returned (.tuple #[.int .i64 ((runesN s : Nat) : Int), .int .i64 (runesE s)]) ∧ Below w.heap.size w w' := by
  have C0 := Lib.hid (fun W => check_any s hs W)
  by_cases h1 : 16777216 < s.size
  · have hr : Hid (runesN s = 0 ∧ runesE s = 3) := ⟨by unfold runesN; rw [if_pos h1], by unfold runesE; rw [if_pos h1]⟩
    go_enter Tryz.func11, Tryz.ntmps11
    go_wp2
    go_ret2
    exact ⟨by rw [hr.out.1, hr.out.2]; rfl, Below.refl _ _⟩
  by_cases h2 : checkN s < s.size
  · have hr : Hid (runesN s = checkN s ∧ runesE s = 10) := ⟨by unfold runesN; rw [if_neg h1, if_pos h2], by unfold runesE; rw [if_neg h1, if_pos h2]⟩
    have e0 := check_yes s h2
    have C1 : Hid (∀ W, Calls Tryz.prog 19 #[.string s] W fun e w' => e = .returned (.tuple #[.int .i64 ((checkN s : Nat) : Int), .int .i64 10]) ∧ Below W.heap.size W w') := fun W => by
      have := C0.out W
      rw [e0] at this
      exact this
    clear C0 e0 h2
    generalize checkN s = k at *
    go_enter Tryz.func11, Tryz.ntmps11
    go_wp2_with fail
    refine (C1.out _).mono ?_
    rintro e w1 ⟨rfl, hb1⟩
    go_wp2_with fail
    go_ret2
    exact ⟨by rw [hr.out.1, hr.out.2]; rfl, hb1⟩
  · have hr : Hid ((noN s < s.size → runesN s = noN s ∧ runesE s = 70) ∧ (¬ noN s < s.size → runesN s = 0 ∧ runesE s = 0)) := by
      refine ⟨fun h => ⟨?_, ?_⟩, fun h => ⟨?_, ?_⟩⟩
      · unfold runesN; rw [if_neg h1, if_neg h2, if_pos h]
      · unfold runesE; rw [if_neg h1, if_neg h2, if_pos h]
      · unfold runesN; rw [if_neg h1, if_neg h2, if_neg h]
      · unfold runesE; rw [if_neg h1, if_neg h2, if_neg h]
    have e0 := check_no s h2
    have C1 : Hid (∀ W, Calls Tryz.prog 19 #[.string s] W fun e w' => e = .returned (.tuple #[.int .i64 ((checkN s : Nat) : Int), .int .i64 0]) ∧ Below W.heap.size W w') := fun W => by
      have := C0.out W
      rw [e0] at this
      exact this
    clear C0 e0 h2
    generalize checkN s = kk at *
    go_enter Tryz.func11, Tryz.ntmps11
    go_wp2_with fail
    refine (C1.out _).mono ?_
    rintro e w1 ⟨rfl, hb1⟩
    have HB1 := Lib.hid hb1
    clear hb1
    go_wp2_with fail
    go_loopw [4] (fun _ wr => ∃ (n f : Nat), wr.heap[w1.heap.size]? = some (.stringIter s n) ∧ Below w.heap.size w wr ∧ w1.heap.size < wr.heap.size ∧ firstNo s f n = noN s ∧ s.size ≤ n + f) (fun _ wr => s.size - wr.iterPos w1.heap.size)
    case atStart => exact ⟨0, s.size, World.iter_heap _ _ _, HB1.out.trans (((Below.refl _ _).alloc (Nat.le_refl _) _).mono HB1.out.size), by simp [World.iter], rfl, by omega⟩
    case round =>
      obtain ⟨n, f, hk, hbw, hsz, hq, hf⟩ := hrel
      have HK := Lib.hid hk
      have HQ := Lib.hid hq
      have HB := Lib.hid hbw
      have HZ := HB1.out.size
      clear hk hq hbw
      by_cases hp : n < s.size
      · have hw := width_ge s n
        have hx := width_fits s n hp
        have hnx : ∀ ty, (Instr.next (.pointer (some ⟨w1.heap.size, 0, none⟩)) true ty).run Tryz.prog wr = .ok (.tuple #[.bool true, .int .i64 (n : Int), .int .i32 (((Utf8.decode s n).1 : Nat) : Int)]) (wr.iterAt w1.heap.size s (n + (Utf8.decode s n).2)) := fun ty => Lib.run_next_any_at (P := Tryz.prog) wr w1.heap.size s n ty HK.out hp
        have e1 := firstNo_stop s f n hp hf
        have e2 := firstNo_go s f n hp hf
        have it2 : Hid ((wr.iterAt w1.heap.size s (n + (Utf8.decode s n).2)).heap[w1.heap.size]? = some (.stringIter s (n + (Utf8.decode s n).2))) := Lib.iterAt_heap _ _ _ _ _ HK.out
        have HB2 := Lib.hid (Lib.below_iterAt HB.out HZ s (n + (Utf8.decode s n).2))
        have hz2 : Hid ((wr.iterAt w1.heap.size s (n + (Utf8.decode s n).2)).heap.size = wr.heap.size) := Lib.iterAt_size _ _ _ _
        generalize wr.iterAt w1.heap.size s (n + (Utf8.decode s n).2) = W2 at *
        generalize (Utf8.decode s n).2 = d at *
        generalize (((Utf8.decode s n).1 : Nat) : Int) = c at *
        have c2 := fun W => class_any c W
        generalize classI c = k at *
        have C3 := Lib.hid c2
        have E1 := Lib.hid e1
        have E2 := Lib.hid e2
        clear c2 e1 e2
        by_cases h : k = 0
        · have b3 : (k == 0) = true := by rw [beq_iff_eq]; exact h
          have HK0 := Lib.hid h
          clear h
          go_wp2_with fail
          refine (C3.out _).mono ?_
          rintro e w3 ⟨rfl, rfl⟩
          go_wp2_with fail
          go_ret2
          have hn : noN s = n := by rw [← HQ.out, E1.out HK0.out]
          obtain ⟨r1, r2⟩ := hr.out.1 (by omega)
          exact ⟨by rw [r1, r2, hn]; rfl, HB2.out⟩
        · have b3 : (k == 0) = false := by rw [beq_eq_false_iff_ne]; exact h
          have HK0 := Lib.hid h
          clear h
          go_wp2_with fail
          refine (C3.out _).mono ?_
          rintro e w3 ⟨rfl, rfl⟩
          go_wp2_with fail
          go_roundw
          case rel => exact ⟨n + d, f - 1, it2.out, HB2.out, by rw [hz2.out]; exact hsz, by rw [← HQ.out, E2.out HK0.out], by omega⟩
          case measure => rw [Plc.iterPos_of it2.out, Plc.iterPos_of HK.out]; omega
      · have hnx : ∀ ty, (Instr.next (.pointer (some ⟨w1.heap.size, 0, none⟩)) true ty).run Tryz.prog wr = .ok (.tuple #[.bool false]) wr := fun ty => Lib.run_next_end_at (P := Tryz.prog) wr w1.heap.size s n ty HK.out hp
        go_wp2_with fail
        go_ret2
        have hn : ¬ noN s < s.size := by rw [← HQ.out, firstNo_end s f n hp]; omega
        obtain ⟨r1, r2⟩ := hr.out.2 hn
        exact ⟨by rw [r1, r2]; rfl, HB.out⟩

/-- Does a token with that text count for gaps? -/
def countsT (x : ByteArray) : Bool := !(x.data.toList == [123] || x.data.toList == [125] || x.data.toList == [59])
theorem counts_any (x : ByteArray) (w : World) :
    Calls Tryz.prog 63 #[.string x] w fun e w' => e = .returned (.bool (countsT x)) ∧ w = w' := by
  have HK : Hid (countsT x = !(x.data.toList == [123] || x.data.toList == [125] || x.data.toList == [59])) := rfl
  go_enter Tryz.func63, Tryz.ntmps63
  go_wp2
  all_goals go_ret
  all_goals refine ⟨?_, rfl⟩
  all_goals rw [HK.out]
  all_goals refine congrArg (fun b : Bool => Ending.returned (Value.bool b)) ?_
  all_goals simp only [Lib.toList_data] at *
  all_goals (first | (simp [*]; done) | simp_all)
end Go.Proofs.YtmgclgojmckfhaaGreatDoor.Lx
