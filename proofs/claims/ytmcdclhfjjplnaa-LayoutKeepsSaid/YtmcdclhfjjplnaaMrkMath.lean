/-
  Marks among tokens: what a row of tokens becomes with marks, and without; that without their marks they are what they were, that no two marks stand side by side, each Begin first or behind a token that opens. No program is run here.
-/
import Derived.Test.YtmcdclhfjjplnaaTk
namespace Go.Proofs.Ytmcdclhfjjplnaa.Mrk
open Tks Go.RowKit
set_option linter.unusedSimpArgs false
set_option linter.unusedVariables false

def empty : ByteArray := ⟨#[]⟩
def tx (t : Tk) : List UInt8 := t.text.data.toList
/-- Does a block begin behind a token? -/
def opensT (t : Tk) : Bool := t.kind == 9 && (tx t == [108, 101, 116] || tx t == [119, 104, 101, 114, 101] || tx t == [100, 111] || tx t == [111, 102])
def braceT (t : Tk) : Bool := t.kind == 15 && tx t == [123]
def moduleT (t : Tk) : Bool := t.kind == 9 && tx t == [109, 111, 100, 117, 108, 101]
def isMark (t : Tk) : Bool := t.kind == 16 || t.kind == 17
def beginM (t : Tk) : Tk := ⟨16, empty, t.line, t.col⟩
def lineM (t : Tk) : Tk := ⟨17, empty, t.line, t.col⟩
def lastM : Tk := ⟨16, empty, 0, 0⟩
section
-- how many newlines a text has
variable (nl : ByteArray → Int)
/-- Does a token begin its line, behind another one? -/
def freshT (a b : Tk) : Bool := b.line != a.line && wrap64 (b.line - a.line) != nl a.text
/-- The mark ahead of a token: none, or one. -/
def ahead (first opens : Bool) (prev t : Tk) : List Tk :=
  if (opens && (!braceT t && (!first || !moduleT t))) = true then [beginM t] else if (first || freshT nl prev t) = true then [lineM t] else []
/-- The rest of a row with its marks. -/
def markF (first opens : Bool) (prev : Tk) : List Tk → List Tk
  | [] => if opens = true then [lastM] else []
  | t :: r => ahead nl first opens prev t ++ t :: markF false (opensT t) t r
def markL (l : List Tk) : List Tk := markF nl true true lastM l
def bareL (l : List Tk) : List Tk := l.filter fun t => !isMark t
theorem ahead_cases (first opens : Bool) (prev t : Tk) : ahead nl first opens prev t = [] ∨ (ahead nl first opens prev t = [beginM t] ∧ opens = true) ∨ ahead nl first opens prev t = [lineM t] := by
  unfold ahead
  split
  · rename_i h
    rw [Bool.and_eq_true] at h
    exact .inr (.inl ⟨rfl, h.1⟩)
  · split
    · exact .inr (.inr rfl)
    · exact .inl rfl
theorem ahead_bare (first opens : Bool) (prev t : Tk) : (ahead nl first opens prev t).filter (fun t => !isMark t) = [] := by
  rcases ahead_cases nl first opens prev t with h | ⟨h, -⟩ | h
  · rw [h]
    rfl
  · rw [h]
    rfl
  · rw [h]
    rfl
theorem markF_bare (l : List Tk) (h : ∀ t ∈ l, isMark t = false) : ∀ first opens prev, bareL (markF nl first opens prev l) = l := by
  induction l with
  | nil =>
    intro first opens prev
    unfold markF
    split
    · rfl
    · rfl
  | cons t r ih =>
    intro first opens prev
    unfold markF
    unfold bareL at ih ⊢
    rw [List.filter_append, ahead_bare, List.nil_append, List.filter_cons_of_pos (by rw [h t (List.mem_cons_self ..)]; rfl), ih (fun u hu => h u (List.mem_cons_of_mem _ hu))]
/-- H4: without their marks tokens are what they were. -/
theorem bare_mark (l : List Tk) (h : ∀ t ∈ l, isMark t = false) : bareL (markL nl l) = l := markF_bare nl l h _ _ _

/-- What is asked of a row with marks, from a place on: what stands ahead of it, if anything does. -/
def Once : Option Tk → List Tk → Prop
  | _, [] => True
  | p, t :: r => (isMark t = true → tx t = [] ∧ (t.kind = 16 → ∀ u, p = some u → opensT u = true) ∧ ∀ v s, r = v :: s → isMark v = false ∧ v.line = t.line ∧ v.col = t.col) ∧ Once (some t) r
theorem once_tok {p : Option Tk} {t : Tk} {r : List Tk} (ht : isMark t = false) (h : Once (some t) r) : Once p (t :: r) := ⟨fun e => (by rw [ht] at e; cases e), h⟩
theorem markF_once (l : List Tk) (h : ∀ t ∈ l, isMark t = false) : ∀ first opens prev (p : Option Tk), (∀ u, p = some u → opens = opensT u) → Once p (markF nl first opens prev l) := by
  induction l with
  | nil =>
    intro first opens prev p hp
    unfold markF
    split
    · rename_i ho
      refine ⟨fun _ => ⟨rfl, fun _ u hu => by rw [← hp u hu]; exact ho, fun v s e => by cases e⟩, trivial⟩
    · trivial
  | cons t r ih =>
    intro first opens prev p hp
    have ht := h t (List.mem_cons_self ..)
    have hr : ∀ q, Once q (t :: markF nl false (opensT t) t r) := fun q => once_tok ht (ih (fun u hu => h u (List.mem_cons_of_mem _ hu)) _ _ _ _ (fun u hu => by injection hu with hu; rw [hu]))
    unfold markF
    rcases ahead_cases nl first opens prev t with e | ⟨e, ho⟩ | e
    · rw [e]
      exact hr p
    · rw [e]
      refine ⟨fun _ => ⟨rfl, fun _ u hu => by rw [← hp u hu]; exact ho, fun v s q => ?_⟩, hr _⟩
      injection q with q _
      subst q
      exact ⟨ht, rfl, rfl⟩
    · rw [e]
      refine ⟨fun _ => ⟨rfl, fun k => absurd (show (17 : Int) = 16 from k) (by decide), fun v s q => ?_⟩, hr _⟩
      injection q with q _
      subst q
      exact ⟨ht, rfl, rfl⟩
theorem mark_once (l : List Tk) (h : ∀ t ∈ l, isMark t = false) : Once none (markL nl l) := markF_once nl l h _ _ _ _ (fun u hu => by cases hu)
/-- The same, place by place. -/
theorem once_at : ∀ {l : List Tk} {p : Option Tk}, Once p l → ∀ (i : Nat) (t : Tk), l[i]? = some t → isMark t = true →
    tx t = [] ∧ (t.kind = 16 → ∀ u, (if i = 0 then p else l[i - 1]?) = some u → opensT u = true) ∧ ∀ v, l[i + 1]? = some v → isMark v = false ∧ v.line = t.line ∧ v.col = t.col
  | [], p, h, i, t, ht, _ => by simp at ht
  | a :: r, p, h, 0, t, ht, hm => by
    simp at ht
    subst ht
    obtain ⟨h1, h2, h3⟩ := h.1 hm
    refine ⟨h1, fun k u hu => h2 k u (by simpa using hu), fun v hv => ?_⟩
    cases r with
    | nil => simp at hv
    | cons b s =>
      simp at hv
      subst hv
      exact h3 _ _ rfl
  | a :: r, p, h, i + 1, t, ht, hm => by
    obtain ⟨h1, h2, h3⟩ := once_at h.2 i t (by simpa using ht) hm
    refine ⟨h1, fun k u hu => ?_, fun v hv => h3 v (by simpa using hv)⟩
    rw [if_neg (by omega), Nat.add_sub_cancel] at hu
    by_cases hi : i = 0
    · subst hi
      exact h2 k u (by simpa using hu)
    · refine h2 k u ?_
      rw [if_neg hi]
      obtain ⟨j, rfl⟩ : ∃ j, i = j + 1 := ⟨i - 1, by omega⟩
      simpa using hu
theorem mark_len (l : List Tk) : 0 < (markL nl l).length ∧ (markL nl l).length ≤ 2 * l.length + 1 := by
  have key : ∀ (l : List Tk) first opens prev, (markF nl first opens prev l).length ≤ 2 * l.length + 1 := by
    intro l
    induction l with
    | nil =>
      intro first opens prev
      unfold markF
      split
      · exact Nat.le_refl _
      · exact Nat.zero_le _
    | cons t r ih =>
      intro first opens prev
      unfold markF
      have h1 := ih false (opensT t) t
      have h2 : (ahead nl first opens prev t).length ≤ 1 := by
        rcases ahead_cases nl first opens prev t with e | ⟨e, -⟩ | e
        all_goals (rw [e]; simp)
      rw [List.length_append, List.length_cons, List.length_cons]
      omega
  refine ⟨?_, key l _ _ _⟩
  unfold markL
  cases l with
  | nil => exact Nat.lt_succ_self 0
  | cons t r =>
    unfold markF
    rw [List.length_append, List.length_cons]
    omega
/-- Tokens of one line, of which none opens a block, nor is a brace or 'module': one mark. -/
theorem mark_none (t : Tk) (r : List Tk) (h : ∀ u ∈ t :: r, u.kind = 1 ∧ u.line = t.line) : markL nl (t :: r) = beginM t :: t :: r := by
  have hop : ∀ u, u.kind = 1 → opensT u = false := fun u hu => by
    unfold opensT
    rw [hu]
    rfl
  have hrest : ∀ (r : List Tk) (p : Tk), (∀ u ∈ p :: r, u.kind = 1 ∧ u.line = t.line) → markF nl false (opensT p) p r = r := by
    intro r
    induction r with
    | nil =>
      intro p hp
      unfold markF
      rw [hop p (hp p (List.mem_cons_self ..)).1]
      rfl
    | cons u r ih =>
      intro p hp
      have h1 := hp p (List.mem_cons_self ..)
      have h2 := hp u (List.mem_cons_of_mem _ (List.mem_cons_self ..))
      unfold markF
      rw [ih u (fun v hv => hp v (List.mem_cons_of_mem _ hv)), hop p h1.1]
      unfold ahead freshT
      rw [h1.2, h2.2, bne_self_eq_false]
      rfl
  unfold markL markF
  rw [hrest r t h]
  have hk := (h t (List.mem_cons_self ..)).1
  unfold ahead braceT moduleT
  rw [hk]
  rfl
theorem mark_nil : markL nl [] = [lastM] := rfl
end
end Go.Proofs.Ytmcdclhfjjplnaa.Mrk
