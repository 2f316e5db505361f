/-
  The layout algorithm over a row of marked tokens: what comes next, and what is open behind it; that from a state that may be only such states come; that all comes to an end. No program is run here.
-/
import Derived.Test.YtmcdclhfjjplnaaMrkRef
namespace Go.Proofs.Ytmcdclhfjjplnaa.Lay
open Tks Mrk Go.RowKit
set_option linter.unusedSimpArgs false
set_option linter.unusedVariables false

def zeroT : Tk := ⟨0, empty, 0, 0⟩
def atT (k : Int) (t : Tk) : Tk := ⟨k, empty, t.line, t.col⟩
def endT (k : Int) : Tk := ⟨k, empty, 0, 0⟩
def isOpen (t : Tk) : Bool := t.kind == 15 && tx t == [123]
def isShut (t : Tk) : Bool := t.kind == 15 && tx t == [125]
/-- The innermost block's column; 0: none, or one with braces. -/
def topL (o : List Int) : Int := o.getLast?.getD 0
/-- What comes next: the token, how far, what is open, what is waited for, the error. -/
structure Nx where
  tok : Tk
  at_ : Nat
  opn : List Int
  wait : Int
  err : Int
def nextR : List Tk → Nat → List Int → Int → Nx
  | [], i, o, w => if o = [] then ⟨endT 21, i, o, w, 0⟩ else if 0 < topL o then ⟨endT 20, i, o.dropLast, w, 0⟩ else ⟨zeroT, i, o, w, 90⟩
  | t :: r, i, o, w =>
    if t.kind = 16 ∧ w = 0 then (if topL o < t.col then ⟨atT 18 t, i + 1, o ++ [t.col], w, 0⟩ else ⟨atT 18 t, i, o, 1, 0⟩)
    else if t.kind = 16 ∧ w = 1 then ⟨atT 20 t, i, o, 2, 0⟩
    else if t.kind = 16 ∨ t.kind = 17 then
      (if 0 < topL o ∧ t.col < topL o then ⟨atT 20 t, i, o.dropLast, w, 0⟩
       else if 0 < topL o ∧ t.col = topL o then ⟨atT 19 t, i + 1, o, 0, 0⟩
       else nextR r (i + 1) o 0)
    else if isShut t = true then (if o = [] ∨ 0 < topL o then ⟨zeroT, i, o, w, 90⟩ else ⟨t, i + 1, o.dropLast, w, 0⟩)
    else if isOpen t = true then ⟨t, i + 1, o ++ [0], w, 0⟩
    else ⟨t, i + 1, o, w, 0⟩
def nextL (l : List Tk) (i : Nat) (o : List Int) (w : Int) : Nx := nextR (l.drop i) i o w

/-- A state that may be. -/
structure Ok (l : List Tk) (i : Nat) (o : List Int) (w : Int) : Prop where
  at_ : i ≤ l.length
  opn : ∀ c ∈ o, 0 ≤ c
  wlo : 0 ≤ w
  whi : w ≤ 2
  wat : 0 < w → ∃ t, l[i]? = some t ∧ t.kind = 16
theorem dropLast_mem {o : List Int} {c : Int} (h : c ∈ o.dropLast) : c ∈ o := List.dropLast_subset o h
theorem topL_push (o : List Int) (c : Int) : topL (o ++ [c]) = c := by simp [topL]
theorem topL_nonneg {o : List Int} (h : ∀ c ∈ o, 0 ≤ c) : 0 ≤ topL o := by
  unfold topL
  cases e : o.getLast? with
  | none => exact Int.le_refl _
  | some c => exact h c (List.mem_of_getLast? e)
theorem top_ne {o : List Int} (h : 0 < topL o) : o ≠ [] := by
  intro e
  subst e
  simp [topL] at h
/-- One step: from a state that may be. -/
theorem nextR_ok (l : List Tk) : ∀ (r : List Tk) (i : Nat) (o : List Int) (w : Int), r = l.drop i → Ok l i o w → Ok l (nextR r i o w).at_ (nextR r i o w).opn (nextR r i o w).wait ∧ ((nextR r i o w).err = 0 ∨ (nextR r i o w).err = 90) := by
  intro r
  induction r with
  | nil =>
    intro i o w hr h
    unfold nextR
    split
    · exact ⟨h, .inl rfl⟩
    · split
      · exact ⟨⟨h.at_, fun c hc => h.opn c (dropLast_mem hc), h.wlo, h.whi, h.wat⟩, .inl rfl⟩
      · exact ⟨h, .inr rfl⟩
  | cons t r ih =>
    intro i o w hr h
    have hi : i < l.length := by
      rcases Nat.lt_or_ge i l.length with q | q
      · exact q
      · rw [List.drop_eq_nil_of_le q] at hr
        cases hr
    have hd : l.drop i = l[i] :: l.drop (i + 1) := List.drop_eq_getElem_cons hi
    rw [hd] at hr
    injection hr with ht hr
    have hti : l[i]? = some t := by rw [List.getElem?_eq_getElem hi, ht]
    have nw : ∀ j : Nat, 0 < (0 : Int) → ∃ t : Tk, l[j]? = some t ∧ t.kind = 16 := fun j q => absurd q (by decide)
    have hw0 : ¬ t.kind = 16 → w = 0 := by
      intro hk
      rcases Int.lt_or_le 0 w with q | q
      · obtain ⟨u, hu, hk2⟩ := h.wat q
        rw [hti] at hu
        cases hu
        exact absurd hk2 hk
      · have := h.wlo
        omega
    unfold nextR
    split
    · rename_i h1
      split
      · rename_i h2
        refine ⟨⟨by dsimp only; omega, fun c hc => ?_, h.wlo, h.whi, fun q => ?_⟩, .inl rfl⟩
        · dsimp only at hc
          rcases List.mem_append.1 hc with hc | hc
          · exact h.opn c hc
          · have := topL_nonneg h.opn
            simp at hc
            omega
        · dsimp only at q
          omega
      · exact ⟨⟨h.at_, h.opn, by (try dsimp only); omega, by (try dsimp only); omega, fun _ => ⟨t, hti, h1.1⟩⟩, .inl rfl⟩
    · split
      · rename_i h1
        exact ⟨⟨h.at_, h.opn, by (try dsimp only); omega, by (try dsimp only); omega, fun _ => ⟨t, hti, h1.1⟩⟩, .inl rfl⟩
      · split
        · split
          · exact ⟨⟨h.at_, fun c hc => h.opn c (dropLast_mem hc), h.wlo, h.whi, h.wat⟩, .inl rfl⟩
          · split
            · exact ⟨⟨by dsimp only; omega, h.opn, by (try dsimp only); omega, by (try dsimp only); omega, nw _⟩, .inl rfl⟩
            · exact ih (i + 1) o 0 hr ⟨by omega, h.opn, by (try dsimp only); omega, by (try dsimp only); omega, nw _⟩
        · rename_i h1 h2 h3
          have hwz : w = 0 := hw0 (fun e => h3 (.inl e))
          subst hwz
          split
          · split
            · exact ⟨h, .inr rfl⟩
            · exact ⟨⟨by dsimp only; omega, fun c hc => h.opn c (dropLast_mem hc), by (try dsimp only); omega, by (try dsimp only); omega, nw _⟩, .inl rfl⟩
          · split
            · refine ⟨⟨by dsimp only; omega, fun c hc => ?_, by (try dsimp only); omega, by (try dsimp only); omega, nw _⟩, .inl rfl⟩
              dsimp only at hc
              rcases List.mem_append.1 hc with hc | hc
              · exact h.opn c hc
              · simp at hc
                omega
            · exact ⟨⟨by dsimp only; omega, h.opn, by (try dsimp only); omega, by (try dsimp only); omega, nw _⟩, .inl rfl⟩
theorem next_ok {l : List Tk} {i : Nat} {o : List Int} {w : Int} (h : Ok l i o w) : Ok l (nextL l i o w).at_ (nextL l i o w).opn (nextL l i o w).wait ∧ ((nextL l i o w).err = 0 ∨ (nextL l i o w).err = 90) := nextR_ok l _ i o w rfl h
/-- How many steps are left at most. -/
def left (l : List Tk) (i : Nat) (o : List Int) (w : Int) : Nat := 5 * (l.length - i) + o.length + (2 - w).toNat
theorem nextR_less (l : List Tk) : ∀ (r : List Tk) (i : Nat) (o : List Int) (w : Int), r = l.drop i → Ok l i o w → (nextR r i o w).err = 0 → (nextR r i o w).tok.kind ≠ 21 → left l (nextR r i o w).at_ (nextR r i o w).opn (nextR r i o w).wait < left l i o w := by
  intro r
  induction r with
  | nil =>
    intro i o w hr h
    unfold nextR
    split
    · intro _ q
      exact absurd rfl q
    · split
      · rename_i ho _
        intro _ _
        have : 0 < o.length := List.length_pos_iff.2 ho
        unfold left
        rw [List.length_dropLast]
        dsimp only
        omega
      · intro q
        cases q
  | cons t r ih =>
    intro i o w hr h
    have hi : i < l.length := by
      rcases Nat.lt_or_ge i l.length with q | q
      · exact q
      · rw [List.drop_eq_nil_of_le q] at hr
        cases hr
    have hd : l.drop i = l[i] :: l.drop (i + 1) := List.drop_eq_getElem_cons hi
    rw [hd] at hr
    injection hr with ht hr
    have hlo := h.wlo
    have hhi := h.whi
    unfold nextR
    split
    · split
      · intro _ _
        unfold left
        rw [List.length_append, List.length_singleton]
        dsimp only
        omega
      · intro _ _
        unfold left
        dsimp only
        omega
    · split
      · intro _ _
        unfold left
        dsimp only
        omega
      · split
        · split
          · rename_i ho
            intro _ _
            have : 0 < o.length := List.length_pos_iff.2 (top_ne ho.1)
            unfold left
            rw [List.length_dropLast]
            dsimp only
            omega
          · split
            · intro _ _
              unfold left
              dsimp only
              omega
            · intro e k
              have nw : 0 < (0 : Int) → ∃ t : Tk, l[i + 1]? = some t ∧ t.kind = 16 := fun q => absurd q (by decide)
              have := ih (i + 1) o 0 hr ⟨by omega, h.opn, by decide, by decide, nw⟩ e k
              unfold left at this ⊢
              omega
        · split
          · split
            · intro q
              cases q
            · intro _ _
              unfold left
              rw [List.length_dropLast]
              dsimp only
              omega
          · split
            · intro _ _
              unfold left
              rw [List.length_append, List.length_singleton]
              dsimp only
              omega
            · intro _ _
              unfold left
              dsimp only
              omega
theorem next_less {l : List Tk} {i : Nat} {o : List Int} {w : Int} (h : Ok l i o w) (he : (nextL l i o w).err = 0) (hk : (nextL l i o w).tok.kind ≠ 21) :
    left l (nextL l i o w).at_ (nextL l i o w).opn (nextL l i o w).wait < left l i o w := nextR_less l _ i o w rfl h he hk
/-- All that is told, one behind the other. -/
def allF (l : List Tk) : Nat → Nat → List Int → Int → List Tk → List Tk × Int
  | 0, _, _, _, _ => ([], 90)
  | f + 1, i, o, w, out =>
    if (nextL l i o w).err ≠ 0 then ([], (nextL l i o w).err)
    else if (nextL l i o w).tok.kind = 21 then (out, 0)
    else allF l f (nextL l i o w).at_ (nextL l i o w).opn (nextL l i o w).wait (out ++ [(nextL l i o w).tok])
def allL (l : List Tk) : List Tk × Int := allF l (5 * l.length + 3) 0 [] 0 []
theorem ok_start (l : List Tk) : Ok l 0 [] 0 := ⟨Nat.zero_le _, fun c hc => (by cases hc), by decide, by decide, fun q => absurd q (by decide)⟩
theorem left_start (l : List Tk) : left l 0 [] 0 + 1 = 5 * l.length + 3 := by
  unfold left
  simp
end Go.Proofs.Ytmcdclhfjjplnaa.Lay
