/-
  What comes of a row of tokens, all in all: without what nobody wrote it is the row without its marks; blocks nest. No program is run here.
-/
import Derived.Test.YtmcdclhfjjplnaaLayMath
namespace Go.Proofs.Ytmcdclhfjjplnaa.Lay
open Tks Mrk Go.RowKit
set_option linter.unusedSimpArgs false
set_option linter.unusedVariables false

/-- Is it a token that somebody wrote? -/
def keepK (t : Tk) : Bool := t.kind != 18 && t.kind != 19 && t.kind != 20
/-- A row in which nobody laid anything but marks. -/
def Plain (l : List Tk) : Prop := ∀ t ∈ l, t.kind < 18
theorem drop_cons {l r : List Tk} {i : Nat} {t : Tk} (h : t :: r = l.drop i) : l[i]? = some t ∧ r = l.drop (i + 1) ∧ i < l.length := by
  have hi : i < l.length := by
    rcases Nat.lt_or_ge i l.length with q | q
    · exact q
    · rw [List.drop_eq_nil_of_le q] at h
      cases h
  have hd : l.drop i = l[i] :: l.drop (i + 1) := List.drop_eq_getElem_cons hi
  rw [hd] at h
  injection h with h1 h2
  exact ⟨by rw [List.getElem?_eq_getElem hi, h1], h2, hi⟩
theorem wait_zero {l : List Tk} {i : Nat} {o : List Int} {w : Int} {t : Tk} (h : Ok l i o w) (ht : l[i]? = some t) (hk : ¬ t.kind = 16) : w = 0 := by
  rcases Int.lt_or_le 0 w with q | q
  · obtain ⟨u, hu, hk2⟩ := h.wat q
    rw [ht] at hu
    cases hu
    exact absurd hk2 hk
  · have := h.wlo
    omega
theorem wait_end {l : List Tk} {i : Nat} {o : List Int} {w : Int} (h : Ok l i o w) (hi : l.length ≤ i) : w = 0 := by
  rcases Int.lt_or_le 0 w with q | q
  · obtain ⟨u, hu, _⟩ := h.wat q
    have := (List.getElem?_eq_some_iff.1 hu).1
    omega
  · have := h.wlo
    omega
theorem pass_ok {l : List Tk} {i : Nat} {o : List Int} {w : Int} (h : Ok l i o w) (hi : i < l.length) : Ok l (i + 1) o 0 :=
  ⟨by omega, h.opn, by omega, by omega, fun q => absurd q (by decide)⟩
theorem nextR_keeps (l : List Tk) (hp : Plain l) : ∀ (r : List Tk) (i : Nat) (o : List Int) (w : Int), r = l.drop i → Ok l i o w → (nextR r i o w).err = 0 →
    ((nextR r i o w).tok.kind = 21 → bareL l = bareL (l.take i)) ∧ ((nextR r i o w).tok.kind ≠ 21 → bareL (l.take (nextR r i o w).at_) = bareL (l.take i) ++ [(nextR r i o w).tok].filter keepK) := by
  intro r
  induction r with
  | nil =>
    intro i o w hr h
    have hi : l.length ≤ i := List.drop_eq_nil_iff.1 hr.symm
    unfold nextR
    split
    · exact fun _ => ⟨fun _ => by rw [List.take_of_length_le hi], fun q => absurd rfl q⟩
    · split
      · exact fun _ => ⟨fun q => absurd q (by simp [endT]), fun _ => by simp [keepK, endT]⟩
      · intro q
        cases q
  | cons t r ih =>
    intro i o w hr h
    obtain ⟨ht, hr2, hi⟩ := drop_cons hr
    have hk := hp t (List.mem_of_getElem? ht)
    have mk : ∀ t : Tk, t.kind = 16 ∨ t.kind = 17 → isMark t = true := fun t q => by
      unfold isMark
      rcases q with q | q
      · rw [q]; rfl
      · rw [q]; rfl
    unfold nextR
    split
    · rename_i h1
      split
      · exact fun _ => ⟨fun q => absurd q (by simp [atT]), fun _ => by rw [bare_no l i t ht (mk t (.inl h1.1))]; simp [keepK, atT]⟩
      · exact fun _ => ⟨fun q => absurd q (by simp [atT]), fun _ => by simp [keepK, atT]⟩
    · split
      · exact fun _ => ⟨fun q => absurd q (by simp [atT]), fun _ => by simp [keepK, atT]⟩
      · split
        · rename_i h3
          split
          · exact fun _ => ⟨fun q => absurd q (by simp [atT]), fun _ => by simp [keepK, atT]⟩
          · split
            · exact fun _ => ⟨fun q => absurd q (by simp [atT]), fun _ => by rw [bare_no l i t ht (mk t h3)]; simp [keepK, atT]⟩
            · intro e
              have := ih (i + 1) o 0 hr2 (pass_ok h hi) e
              rw [bare_no l i t ht (mk t h3)] at this
              exact this
        · rename_i h3
          have hm : isMark t = false := by
            unfold isMark
            rw [Bool.or_eq_false_iff, beq_eq_false_iff_ne, beq_eq_false_iff_ne]
            exact ⟨fun e => h3 (.inl e), fun e => h3 (.inr e)⟩
          have hkk : keepK t = true := by
            unfold keepK
            simp only [Bool.and_eq_true, bne_iff_ne, ne_eq]
            omega
          have fin : bareL (l.take (i + 1)) = bareL (l.take i) ++ [t].filter keepK := by
            rw [bare_yes l i t ht hm]
            simp [hkk]
          split
          · split
            · intro q
              cases q
            · exact fun _ => ⟨fun q => absurd q (by dsimp only; omega), fun _ => fin⟩
          · split
            · exact fun _ => ⟨fun q => absurd q (by dsimp only; omega), fun _ => fin⟩
            · exact fun _ => ⟨fun q => absurd q (by dsimp only; omega), fun _ => fin⟩
/-- What holds of each step holds in the end. -/
theorem allF_ind (l : List Tk) (P : Nat → List Int → Int → List Tk → Prop) (Q : List Tk → Prop)
    (hs : ∀ i o w out, Ok l i o w → P i o w out → (nextL l i o w).err = 0 → (nextL l i o w).tok.kind ≠ 21 → P (nextL l i o w).at_ (nextL l i o w).opn (nextL l i o w).wait (out ++ [(nextL l i o w).tok]))
    (he : ∀ i o w out, Ok l i o w → P i o w out → (nextL l i o w).err = 0 → (nextL l i o w).tok.kind = 21 → Q out) :
    ∀ f i o w out, Ok l i o w → P i o w out → (allF l f i o w out).2 = 0 → Q (allF l f i o w out).1 := by
  intro f
  induction f with
  | zero =>
    intro i o w out _ _ q
    cases q
  | succ f ih =>
    intro i o w out h p
    unfold allF
    split
    · rename_i q
      exact fun e => absurd e q
    · rename_i q
      have q := Decidable.not_not.1 q
      split
      · rename_i k
        exact fun _ => he i o w out h p q k
      · rename_i k
        exact ih _ _ _ _ (next_ok h).1 (hs i o w out h p q k)
theorem keeps_all (l : List Tk) (hp : Plain l) (he : (allL l).2 = 0) : (allL l).1.filter keepK = bareL l := by
  refine allF_ind l (fun i _ _ out => out.filter keepK = bareL (l.take i)) (fun out => out.filter keepK = bareL l) ?_ ?_ _ _ _ _ _ (ok_start l) rfl he
  · intro i o w out h p e k
    have := (nextR_keeps l hp _ i o w rfl h e).2 k
    rw [List.filter_append, p]
    exact this.symm
  · intro i o w out h p e k
    rw [p]
    exact ((nextR_keeps l hp _ i o w rfl h e).1 k).symm

/-- Which blocks are open: with braces? -/
def nestStep (t : Tk) (st : List Bool) : Option (List Bool) :=
  if (t.kind == 18 || isOpen t) = true then some (st ++ [t.kind == 15])
  else if (t.kind == 20 || isShut t) = true then (if st.getLast? = some (t.kind == 15) then some st.dropLast else none)
  else if t.kind = 19 then (if st.getLast? = some false then some st else none)
  else some st
def nestF : List Tk → List Bool → Option (List Bool)
  | [], st => some st
  | t :: r, st => match nestStep t st with
    | none => none
    | some st => nestF r st
theorem nestF_snoc (t : Tk) : ∀ (l : List Tk) (st st' : List Bool), nestF l st = some st' → nestF (l ++ [t]) st = nestStep t st'
  | [], st, st', h => by
    injection h with h
    subst h
    show (match nestStep t st with | none => none | some st => nestF [] st) = _
    cases nestStep t st <;> rfl
  | u :: r, st, st', h => by
    have h : (match nestStep u st with | none => none | some st => nestF r st) = some st' := h
    show (match nestStep u st with | none => none | some st => nestF (r ++ [t]) st) = _
    cases e : nestStep u st with
    | none =>
      rw [e] at h
      cases h
    | some s2 =>
      rw [e] at h
      exact nestF_snoc t r s2 st' h
def stOf (o : List Int) (w : Int) : List Bool := o.map (fun c => c == 0) ++ (if w = 1 then [false] else [])
theorem stOf_not {o : List Int} {w : Int} (h : w ≠ 1) : stOf o w = o.map (fun c => c == 0) := by
  unfold stOf
  rw [if_neg h, List.append_nil]
theorem last_top {o : List Int} (h : o ≠ []) : (o.map (fun c => c == 0)).getLast? = some (topL o == 0) := by
  obtain ⟨a, c, rfl⟩ : ∃ a c, o = a ++ [c] := ⟨o.dropLast, o.getLast h, (List.dropLast_concat_getLast h).symm⟩
  rw [List.map_append, topL_push]
  simp
theorem nextR_nests (l : List Tk) (hp : Plain l) : ∀ (r : List Tk) (i : Nat) (o : List Int) (w : Int), r = l.drop i → Ok l i o w → (nextR r i o w).err = 0 →
    ((nextR r i o w).tok.kind = 21 → stOf o w = []) ∧ ((nextR r i o w).tok.kind ≠ 21 → nestStep (nextR r i o w).tok (stOf o w) = some (stOf (nextR r i o w).opn (nextR r i o w).wait)) := by
  have hr1 : ∀ (t : Tk) (o : List Int) (w : Int), w ≠ 1 → 0 < topL o → t.kind = 20 → nestStep t (stOf o w) = some (stOf o.dropLast w) := by
    intro t o w hw ho hk
    unfold nestStep
    have e1 : (t.kind == 18 || isOpen t) = false := by
      unfold isOpen
      rw [hk]
      rfl
    have e2 : (t.kind == 20 || isShut t) = true := by rw [hk]; rfl
    have e3 : (topL o == 0) = (t.kind == 15) := by
      rw [hk, beq_eq_false_iff_ne.2 (by omega : topL o ≠ 0)]
      rfl
    rw [e1, e2, stOf_not hw, stOf_not hw, last_top (top_ne ho), e3]
    simp
  intro r
  induction r with
  | nil =>
    intro i o w hr h
    have hi : l.length ≤ i := List.drop_eq_nil_iff.1 hr.symm
    have hw := wait_end h hi
    subst hw
    unfold nextR
    split
    · rename_i ho
      subst ho
      exact fun _ => ⟨fun _ => rfl, fun q => absurd rfl q⟩
    · split
      · rename_i ho
        exact fun _ => ⟨fun q => absurd q (by simp [endT]), fun _ => hr1 _ _ _ (by decide) ho rfl⟩
      · intro q
        cases q
  | cons t r ih =>
    intro i o w hr h
    obtain ⟨ht, hr2, hi⟩ := drop_cons hr
    have hk := hp t (List.mem_of_getElem? ht)
    have h0 := topL_nonneg h.opn
    unfold nextR
    split
    · rename_i h1
      have hw : w ≠ 1 := by omega
      split
      · rename_i h2
        refine fun _ => ⟨fun q => absurd q (by simp [atT]), fun _ => ?_⟩
        dsimp only
        rw [stOf_not hw, stOf_not hw]
        have e : (t.col == 0) = false := beq_eq_false_iff_ne.2 (by omega)
        simp [nestStep, atT, isOpen, e]
      · refine fun _ => ⟨fun q => absurd q (by simp [atT]), fun _ => ?_⟩
        dsimp only
        rw [stOf_not hw]
        simp [nestStep, atT, isOpen, stOf]
    · split
      · rename_i h1
        refine fun _ => ⟨fun q => absurd q (by simp [atT]), fun _ => ?_⟩
        dsimp only
        rw [h1.2, stOf_not (by decide : (2 : Int) ≠ 1)]
        simp [nestStep, atT, isOpen, isShut, stOf]
      · rename_i h1 h2
        split
        · rename_i h3
          have hw : w ≠ 1 := by
            intro e
            by_cases q : t.kind = 16
            · exact h2 ⟨q, e⟩
            · have := wait_zero h ht q
              omega
          split
          · rename_i h4
            exact fun _ => ⟨fun q => absurd q (by simp [atT]), fun _ => hr1 _ _ _ hw h4.1 rfl⟩
          · split
            · rename_i h5
              refine fun _ => ⟨fun q => absurd q (by simp [atT]), fun _ => ?_⟩
              dsimp only
              rw [stOf_not hw, stOf_not (by decide : (0 : Int) ≠ 1)]
              have e3 : (topL o == 0) = false := beq_eq_false_iff_ne.2 (by omega)
              simp [nestStep, atT, isOpen, isShut, last_top (top_ne h5.1), e3]
            · intro e
              have := ih (i + 1) o 0 hr2 (pass_ok h hi) e
              rw [stOf_not (by decide : (0 : Int) ≠ 1)] at this
              rw [stOf_not hw]
              exact this
        · rename_i h3
          have hwz : w = 0 := wait_zero h ht (fun e => h3 (.inl e))
          subst hwz
          have hz : (0 : Int) ≠ 1 := by decide
          have n18 : (t.kind == 18) = false := beq_eq_false_iff_ne.2 (by omega)
          have n20 : (t.kind == 20) = false := beq_eq_false_iff_ne.2 (by omega)
          split
          · rename_i h4
            have k15 : (t.kind == 15) = true := by
              unfold isShut at h4
              rw [Bool.and_eq_true] at h4
              exact h4.1
            have no : isOpen t = false := by
              unfold isShut at h4
              rw [Bool.and_eq_true, beq_iff_eq, beq_iff_eq] at h4
              unfold isOpen
              rw [h4.2]
              simp
            split
            · intro q
              cases q
            · rename_i h5
              have ho : o ≠ [] := fun e => h5 (.inl e)
              refine fun _ => ⟨fun q => absurd q (by dsimp only; omega), fun _ => ?_⟩
              dsimp only
              rw [stOf_not hz, stOf_not hz]
              have e3 : (topL o == 0) = true := beq_iff_eq.2 (by have : ¬ 0 < topL o := fun e => h5 (.inr e); omega)
              unfold nestStep
              rw [n18, n20, no, h4, last_top ho, e3, k15]
              simp
          · rename_i h4
            have ns : isShut t = false := Bool.eq_false_iff.2 h4
            split
            · rename_i h5
              have k15 : (t.kind == 15) = true := by
                unfold isOpen at h5
                rw [Bool.and_eq_true] at h5
                exact h5.1
              refine fun _ => ⟨fun q => absurd q (by dsimp only; omega), fun _ => ?_⟩
              dsimp only
              rw [stOf_not hz, stOf_not hz]
              unfold nestStep
              rw [n18, h5, k15]
              simp
            · rename_i h5
              have no : isOpen t = false := Bool.eq_false_iff.2 h5
              refine fun _ => ⟨fun q => absurd q (by dsimp only; omega), fun _ => ?_⟩
              dsimp only
              unfold nestStep
              rw [n18, n20, no, ns]
              have : ¬ t.kind = 19 := by omega
              simp [this]
theorem nests_all (l : List Tk) (hp : Plain l) (he : (allL l).2 = 0) : nestF (allL l).1 [] = some [] := by
  refine allF_ind l (fun i o w out => nestF out [] = some (stOf o w)) (fun out => nestF out [] = some []) ?_ ?_ _ _ _ _ _ (ok_start l) rfl he
  · intro i o w out h p e k
    rw [nestF_snoc _ _ _ _ p]
    exact (nextR_nests l hp _ i o w rfl h e).2 k
  · intro i o w out h p e k
    rw [p, (nextR_nests l hp _ i o w rfl h e).1 k]
end Go.Proofs.Ytmcdclhfjjplnaa.Lay
