/-
  A type over a row of plain tokens is read alike over the row of just the tokens that it took, whatever their places. No program is run here.
-/
import Derived.Test.YtmgclgojmckfhaaGreatDoorZTypA
namespace Go.Proofs.YtmgclgojmckfhaaGreatDoor.Typ
open Tks Mrk Lay Tre Go.RowKit
set_option linter.unusedSimpArgs false
set_option linter.unusedVariables false

def keyT (t : Tk) : Int × List UInt8 := (t.kind, t.text.data.toList)
/-- Tokens as a lexer tells them. -/
def PlainT (t : Tk) : Prop := 1 ≤ t.kind ∧ t.kind ≤ 15
def at' (l : List Tk) (i : Nat) : Sx := ⟨l, (i : Int), [], 0⟩
theorem at_ok {l : List Tk} {i : Nat} (h : i ≤ l.length) : okB (at' l i) = true := (okB_iff _).2 ⟨i, rfl, ⟨h, fun c hc => (by cases hc), (by decide : (0 : Int) ≤ 0), (by decide : (0 : Int) ≤ 2), fun q => absurd q (by decide : ¬ (0 : Int) < 0)⟩⟩
theorem next_end {l : List Tk} : nextS (at' l l.length) = (endT 21, at' l l.length, 0) := by
  unfold nextS
  rw [if_pos (at_ok (Nat.le_refl _))]
  have e : nextL l (at' l l.length).at_.toNat [] 0 = ⟨endT 21, l.length, [], 0, 0⟩ := by
    unfold nextL
    rw [show (at' l l.length).at_.toNat = l.length from Int.toNat_natCast _, List.drop_length]
    rfl
  dsimp only [at'] at e ⊢
  rw [e]
theorem next_plain {l : List Tk} (hl : ∀ t ∈ l, PlainT t) {i : Nat} (h : i < l.length) (h1 : isShut l[i] = false) (h2 : isOpen l[i] = false) : nextS (at' l i) = (l[i], at' l (i + 1), 0) := by
  have hp := hl _ (List.getElem_mem h)
  unfold PlainT at hp
  unfold nextS
  rw [if_pos (at_ok (Nat.le_of_lt h))]
  have e : nextL l (at' l i).at_.toNat [] 0 = ⟨l[i], i + 1, [], 0, 0⟩ := by
    unfold nextL
    rw [show (at' l i).at_.toNat = i from Int.toNat_natCast _, List.drop_eq_getElem_cons h]
    unfold nextR
    rw [if_neg (by omega), if_neg (by omega), if_neg (by omega), if_neg (by rw [h1]; decide), if_neg (by rw [h2]; decide)]
  dsimp only [at'] at e ⊢
  rw [e]
/-- A token that may be taken there is that one, and it opens and shuts nothing. -/
theorem next_brace {l : List Tk} (hl : ∀ t ∈ l, PlainT t) {i : Nat} (h : i < l.length) (hb : isShut l[i] = true ∨ isOpen l[i] = true) : er (at' l i) ≠ 0 ∨ isOpen (tk (at' l i)) = true := by
  have hp := hl _ (List.getElem_mem h)
  unfold PlainT at hp
  unfold er tk nextS
  rw [if_pos (at_ok (Nat.le_of_lt h))]
  have e : nextL l (at' l i).at_.toNat (at' l i).opn (at' l i).wait = nextR (l[i] :: l.drop (i + 1)) i [] 0 := by
    unfold nextL
    rw [show (at' l i).at_.toNat = i from Int.toNat_natCast _]
    show nextR (l.drop i) i [] 0 = _
    rw [List.drop_eq_getElem_cons h]
  dsimp only at e ⊢
  show (nextL l (at' l i).at_.toNat (at' l i).opn (at' l i).wait).err ≠ 0 ∨ isOpen (nextL l (at' l i).at_.toNat (at' l i).opn (at' l i).wait).tok = true
  rw [e]
  unfold nextR
  rw [if_neg (by omega), if_neg (by omega), if_neg (by omega)]
  by_cases h1 : isShut l[i] = true
  · rw [if_pos h1, if_pos (.inl rfl)]
    exact .inl (by decide : ¬ (90 : Int) = 0)
  · rw [if_neg h1]
    rcases hb with hb | hb
    · exact absurd hb h1
    · rw [if_pos hb]
      exact .inr hb

/-- The row m is the first k tokens of l, but for their places. -/
structure Cut (l m : List Tk) : Prop where
  pl : ∀ t ∈ l, PlainT t
  pm : ∀ t ∈ m, PlainT t
  le : m.length ≤ l.length
  key : ∀ (i : Nat) (hl : i < l.length) (hm : i < m.length), keyT l[i] = keyT m[i]
theorem key_brace {t u : Tk} (h : keyT t = keyT u) : isShut t = isShut u ∧ isOpen t = isOpen u ∧ startsB t = startsB u ∧ t.kind = u.kind ∧ t.text.data.toList = u.text.data.toList := by
  unfold keyT at h
  injection h with h1 h2
  refine ⟨?_, ?_, ?_, h1, h2⟩
  · unfold isShut tx
    rw [h1, h2]
  · unfold isOpen tx
    rw [h1, h2]
  · unfold startsB
    rw [h1, h2]

theorem at_inj {l : List Tk} {i j : Nat} (h : at' l i = at' l j) : i = j := by
  unfold at' at h
  injection h with _ h2 _ _
  omega
def Stp (l : List Tk) (i : Nat) : Prop := ∃ h : i < l.length, nextS (at' l i) = (l[i], at' l (i + 1), 0)
/-- Three ways that a place may be. -/
theorem ways {l : List Tk} (pl : ∀ t ∈ l, PlainT t) {i : Nat} (hi : i ≤ l.length) : Stp l i ∨ (i < l.length ∧ (er (at' l i) ≠ 0 ∨ isOpen (tk (at' l i)) = true)) ∨ (i = l.length ∧ tk (at' l i) = endT 21) := by
  rcases Nat.lt_or_ge i l.length with h | h
  · by_cases hb : isShut l[i] = true ∨ isOpen l[i] = true
    · exact .inr (.inl ⟨h, next_brace pl h hb⟩)
    · refine .inl ⟨h, next_plain pl h ?_ ?_⟩
      · cases e : isShut l[i] with
        | false => rfl
        | true => exact absurd (.inl e) hb
      · cases e : isOpen l[i] with
        | false => rfl
        | true => exact absurd (.inr e) hb
  · have e : i = l.length := by omega
    subst e
    exact .inr (.inr ⟨rfl, by unfold tk; rw [next_end]⟩)
theorem Cut.stp {l m : List Tk} (c : Cut l m) {i : Nat} (hm : i < m.length) (h : Stp l i) : Stp m i := by
  obtain ⟨hl, e⟩ := h
  obtain ⟨k1, k2, -, -, -⟩ := key_brace (c.key i hl hm)
  refine ⟨hm, next_plain c.pm hm ?_ ?_⟩
  · cases e1 : isShut m[i] with
    | false => rfl
    | true =>
      rcases next_brace c.pl hl (.inl (k1.trans e1)) with h | h
      · unfold er at h
        rw [e] at h
        exact absurd rfl h
      · unfold tk at h
        rw [e] at h
        have h : isOpen l[i] = true := h
        have h1 := k1.trans e1
        unfold isShut at h1
        unfold isOpen at h
        simp only [Bool.and_eq_true, beq_iff_eq] at h1 h
        rw [h.2] at h1
        exact absurd h1.2 (by decide)
  · cases e1 : isOpen m[i] with
    | false => rfl
    | true =>
      exfalso
      have h1 : isOpen l[i] = true := k2.trans e1
      have hp := c.pl _ (List.getElem_mem hl)
      unfold PlainT at hp
      have e2 : nextL l (at' l i).at_.toNat [] 0 = ⟨l[i], i + 1, [0], 0, 0⟩ := by
        unfold nextL
        rw [show (at' l i).at_.toNat = i from Int.toNat_natCast _, List.drop_eq_getElem_cons hl]
        unfold nextR
        have h3 : isShut l[i] = false := by
          cases e3 : isShut l[i] with
          | false => rfl
          | true =>
            unfold isShut at e3
            unfold isOpen at h1
            simp only [Bool.and_eq_true, beq_iff_eq] at h1 e3
            rw [h1.2] at e3
            exact absurd e3.2 (by decide)
        rw [if_neg (by omega), if_neg (by omega), if_neg (by omega), if_neg (by rw [h3]; decide), if_pos h1]
        rfl
      have e3 : (nextS (at' l i)).2.1.opn = [0] := by
        unfold nextS
        rw [if_pos (at_ok (Nat.le_of_lt hl))]
        show (nextL l (at' l i).at_.toNat [] 0).opn = [0]
        rw [e2]
      rw [e] at e3
      exact absurd e3 (by decide : ¬ ([] : List Int) = [0])
/-- A test of a token that is no brace. -/
structure Fair (k : Int) (x : List UInt8) : Prop where
  hi : k ≤ 15
  no : ¬ (k = 15 ∧ x = [123])
theorem is_stp {l : List Tk} (pl : ∀ t ∈ l, PlainT t) {i : Nat} (hi : i ≤ l.length) {k : Int} {x : List UInt8} (f : Fair k x) (h : isR (at' l i) k x = true) : Stp l i := by
  unfold isR at h
  simp only [Bool.and_eq_true, beq_iff_eq] at h
  obtain ⟨h0, h1, h2⟩ := h
  rcases ways pl hi with w | ⟨-, w | w⟩ | ⟨-, w⟩
  · exact w
  · exact absurd h0 w
  · unfold isOpen tx at w
    simp only [Bool.and_eq_true, beq_iff_eq] at w
    exact absurd ⟨h1.symm.trans w.1, h2.symm.trans w.2⟩ f.no
  · rw [w] at h1
    have := f.hi
    have h1 : (21 : Int) = k := h1
    omega
theorem starts_stp {l : List Tk} (pl : ∀ t ∈ l, PlainT t) {i : Nat} (hi : i ≤ l.length) (he : er (at' l i) = 0) (h : startsB (tk (at' l i)) = true) : Stp l i := by
  rcases ways pl hi with w | ⟨-, w | w⟩ | ⟨-, w⟩
  · exact w
  · exact absurd he w
  · unfold isOpen tx at w
    unfold startsB at h
    simp only [Bool.and_eq_true, beq_iff_eq, Bool.or_eq_true] at w h
    rw [w.1, w.2] at h
    exact absurd h (by decide)
  · rw [w] at h
    exact absurd h (by decide)
theorem take_stp {l : List Tk} {i : Nat} (h : Stp l i) : ∃ hl : i < l.length, takeR (at' l i) = ⟨leafH l[i], .nil, at' l (i + 1), 0⟩ ∧ tk (at' l i) = l[i] ∧ er (at' l i) = 0 := by
  obtain ⟨hl, e⟩ := h
  refine ⟨hl, ?_, by unfold tk; rw [e], by unfold er; rw [e]⟩
  unfold takeR er tk nx
  rw [e]
  rfl
/-- The shorter row's tests: where there is a token, the same; at its end, no. -/
theorem Cut.is {l m : List Tk} (c : Cut l m) {i : Nat} (hm : i < m.length) {k : Int} {x : List UInt8} (f : Fair k x) : isR (at' m i) k x = isR (at' l i) k x := by
  have hl : i < l.length := Nat.lt_of_lt_of_le hm c.le
  have hk := c.key i hl hm
  cases e : isR (at' l i) k x with
  | true =>
    have h1 := is_stp c.pl (Nat.le_of_lt hl) f e
    obtain ⟨_, -, t1, r1⟩ := take_stp h1
    obtain ⟨_, -, t2, r2⟩ := take_stp (c.stp hm h1)
    obtain ⟨-, -, -, k4, k5⟩ := key_brace hk
    unfold isR at e ⊢
    rw [t1, r1] at e
    rw [t2, r2, ← k4, ← k5]
    exact e
  | false =>
    cases e2 : isR (at' m i) k x with
    | false => rfl
    | true =>
      have h2 := is_stp c.pm (Nat.le_of_lt hm) f e2
      obtain ⟨_, -, t2, r2⟩ := take_stp h2
      obtain ⟨-, -, -, k4, k5⟩ := key_brace hk
      have c2 : Cut m (m.take (i + 1)) := ⟨c.pm, fun t ht => c.pm t (List.mem_of_mem_take ht), by rw [List.length_take]; omega, fun j h3 h4 => by rw [List.getElem_take]⟩
      have h3 : Stp l i := by
        rcases ways c.pl (Nat.le_of_lt hl) with w | ⟨-, w⟩ | ⟨w, -⟩
        · exact w
        · exfalso
          unfold isR at e2
          rw [t2, r2] at e2
          simp only [Bool.and_eq_true, beq_iff_eq] at e2
          by_cases hb : isShut l[i] = true ∨ isOpen l[i] = true
          · obtain ⟨q1, q2, -, -, -⟩ := key_brace hk
            rcases next_brace c.pm hm (by rw [← q1, ← q2]; exact hb) with w2 | w2
            · exact w2 r2
            · rw [t2] at w2
              unfold isOpen tx at w2
              simp only [Bool.and_eq_true, beq_iff_eq] at w2
              exact f.no ⟨e2.2.1.symm.trans w2.1, e2.2.2.symm.trans w2.2⟩
          · have h5 : isShut l[i] = false := by
              cases e : isShut l[i] with
              | false => rfl
              | true => exact absurd (.inl e) hb
            have h6 : isOpen l[i] = false := by
              cases e : isOpen l[i] with
              | false => rfl
              | true => exact absurd (.inr e) hb
            have e7 := next_plain c.pl hl h5 h6
            rcases w with w | w
            · unfold er at w
              rw [e7] at w
              exact w rfl
            · unfold tk at w
              rw [e7] at w
              rw [h6] at w
              cases w
        · omega
      obtain ⟨_, -, t1, r1⟩ := take_stp h3
      unfold isR at e e2
      rw [t1, r1] at e
      rw [t2, r2, ← k4, ← k5] at e2
      rw [e2] at e
      cases e
theorem Cut.end {l m : List Tk} (c : Cut l m) {k : Int} {x : List UInt8} (f : Fair k x) : isR (at' m m.length) k x = false := by
  unfold isR tk
  rw [next_end]
  have := f.hi
  have : ((endT 21).kind == k) = false := by
    rw [beq_eq_false_iff_ne]
    show (21 : Int) ≠ k
    omega
  rw [this]
  simp
theorem Cut.no {l m : List Tk} (c : Cut l m) {i : Nat} (hm : i ≤ m.length) {k : Int} {x : List UInt8} (f : Fair k x) (h : isR (at' l i) k x = false) : isR (at' m i) k x = false := by
  rcases Nat.lt_or_ge i m.length with q | q
  · rw [c.is q f]
    exact h
  · rw [show i = m.length by omega]
    exact c.end f
end Go.Proofs.YtmgclgojmckfhaaGreatDoor.Typ
/-
  A type over a row of plain tokens is read alike over the row of just the tokens that it took: the reading. No program is run here.
-/
namespace Go.Proofs.YtmgclgojmckfhaaGreatDoor.Typ
open Tks Mrk Lay Tre Go.RowKit
set_option linter.unusedSimpArgs false
set_option linter.unusedVariables false
set_option linter.unusedSectionVars false

theorem nextR_err : ∀ (r : List Tk) (i : Nat) (o : List Int) (w : Int), (nextR r i o w).err ≠ 0 → (nextR r i o w).tok = zeroT
  | [], i, o, w => by
    unfold nextR
    split
    · exact fun h => absurd rfl h
    · split
      · exact fun h => absurd rfl h
      · exact fun _ => rfl
  | t :: r, i, o, w => by
    unfold nextR
    split
    · split <;> exact fun h => absurd rfl h
    · split
      · exact fun h => absurd rfl h
      · split
        · split
          · exact fun h => absurd rfl h
          · split
            · exact fun h => absurd rfl h
            · exact nextR_err r (i + 1) o 0
        · split
          · split
            · exact fun _ => rfl
            · exact fun h => absurd rfl h
          · split <;> exact fun h => absurd rfl h
theorem er_tok {s : Sx} (h : er s ≠ 0) : tk s = zeroT := by
  unfold er tk nextS at *
  split
  · rename_i hk
    rw [if_pos hk] at h
    exact nextR_err _ _ _ _ h
  · rfl
theorem starts_er {s : Sx} (h : startsB (tk s) = true) : er s = 0 := by
  rcases Int.lt_trichotomy (er s) 0 with q | q | q
  · rw [er_tok (by omega)] at h
    exact absurd h (by decide)
  · exact q
  · rw [er_tok (by omega)] at h
    exact absurd h (by decide)
theorem starts_at {l : List Tk} (pl : ∀ t ∈ l, PlainT t) {i : Nat} (hi : i ≤ l.length) (h : startsB (tk (at' l i)) = true) : Stp l i := starts_stp pl hi (starts_er h) h
theorem Cut.starts {l m : List Tk} (c : Cut l m) {i : Nat} (hm : i < m.length) (h : startsB (tk (at' l i)) = true) : startsB (tk (at' m i)) = true := by
  have h1 := starts_at c.pl (Nat.le_of_lt (Nat.lt_of_lt_of_le hm c.le)) h
  obtain ⟨hl, -, t1, -⟩ := take_stp h1
  obtain ⟨_, -, t2, -⟩ := take_stp (c.stp hm h1)
  rw [t1] at h
  rw [t2, ← (key_brace (c.key i hl hm)).2.2.1]
  exact h
theorem startsB_fair (t : Tk) : startsB t = true → isShut t = false ∧ isOpen t = false := by
  intro h
  refine ⟨?_, ?_⟩
  · cases e : isShut t with
    | false => rfl
    | true =>
      unfold isShut tx at e
      unfold startsB at h
      simp only [Bool.and_eq_true, beq_iff_eq] at e
      rw [e.1, e.2] at h
      exact absurd h (by decide)
  · cases e : isOpen t with
    | false => rfl
    | true =>
      unfold isOpen tx at e
      unfold startsB at h
      simp only [Bool.and_eq_true, beq_iff_eq] at e
      rw [e.1, e.2] at h
      exact absurd h (by decide)
theorem Cut.nostarts {l m : List Tk} (c : Cut l m) {i : Nat} (hm : i ≤ m.length) (h : startsB (tk (at' l i)) = false) : startsB (tk (at' m i)) = false := by
  rcases Nat.lt_or_ge i m.length with q | q
  · cases e : startsB (tk (at' m i)) with
    | false => rfl
    | true =>
      have hl : i < l.length := Nat.lt_of_lt_of_le q c.le
      obtain ⟨_, -, t2, -⟩ := take_stp (starts_at c.pm hm e)
      obtain ⟨k1, k2, k3, -, -⟩ := key_brace (c.key i hl q)
      rw [t2] at e
      have h3 : startsB l[i] = true := k3.trans e
      obtain ⟨f1, f2⟩ := startsB_fair _ h3
      obtain ⟨_, -, t1, -⟩ := take_stp ⟨hl, next_plain c.pl hl f1 f2⟩
      rw [t1, h3] at h
      cases h
  · rw [show i = m.length by omega]
    unfold tk
    rw [next_end]
    exact (by decide +kernel : startsB (endT 21) = false)

/-! ### Where a reading that goes well ends -/

def Pa (l : List Tk) (i : Nat) (x : Rd) : Prop := x.e = 0 → ∃ j, i < j ∧ j ≤ l.length ∧ x.s = at' l j
theorem Pa.less {l : List Tk} {i k : Nat} {x : Rd} (h : Pa l k x) (hk : i ≤ k) : Pa l i x := fun e => by
  obtain ⟨j, h1, h2, h3⟩ := h e
  exact ⟨j, by omega, h2, h3⟩
theorem Pa.no {l : List Tk} {i : Nat} {x : Rd} (h : x.e ≠ 0) : Pa l i x := fun e => absurd e h
theorem fair_comma : Fair 15 [44] := ⟨by decide, by decide⟩
theorem fair_round : Fair 15 [41] := ⟨by decide, by decide⟩
theorem fair_square : Fair 15 [93] := ⟨by decide, by decide⟩
theorem fair_arrow : Fair 10 [45, 62] := ⟨by decide, by decide⟩
theorem fair_imply : Fair 10 [61, 62] := ⟨by decide, by decide⟩
section
variable {l : List Tk} (pl : ∀ t ∈ l, PlainT t)
include pl
theorem take_at {i : Nat} (h : Stp l i) : (takeR (at' l i)).s = at' l (i + 1) ∧ i + 1 ≤ l.length ∧ (takeR (at' l i)).e = 0 := by
  obtain ⟨hl, e, -, -⟩ := take_stp h
  rw [e]
  exact ⟨rfl, hl, rfl⟩
theorem close_pa {i : Nat} (hi : i ≤ l.length) (kind : Int) (c : UInt8) (f : Fair 15 [c]) (a : Fo) : Pa l i (closeR kind c a (at' l i)) := by
  unfold closeR
  split
  · rename_i hw
    intro _
    unfold wantR at hw ⊢
    split at hw
    · rename_i hi2
      obtain ⟨h1, h2, -⟩ := take_at pl (is_stp pl hi f hi2)
      rw [if_pos hi2]
      exact ⟨i + 1, by omega, h2, h1⟩
    · exact absurd hw (bad_ne _)
  · rename_i hw
    exact .no hw
theorem commas_pa : ∀ (f i : Nat) (a : Fo), i ≤ l.length → Pa l i (commasR f a (at' l i))
  | 0, i, a, hi => .no (by decide : ¬ (-1 : Int) = 0)
  | f + 1, i, a, hi => by
    unfold commasR
    split
    · rename_i h
      obtain ⟨h1, h2, -⟩ := take_at pl (is_stp pl hi fair_comma h)
      rw [h1]
      exact (commas_pa f (i + 1) _ h2).less (by omega)
    · exact close_pa pl hi 3 41 fair_round a
variable {T : Sx → Rd} (hT : ∀ i, i ≤ l.length → Pa l i (T (at' l i)))
include hT
theorem types_pa : ∀ (f i : Nat) (kind : Int) (a : Fo), i ≤ l.length → Pa l i (typesR T f kind a (at' l i))
  | 0, i, kind, a, hi => .no (by decide : ¬ (-1 : Int) = 0)
  | f + 1, i, kind, a, hi => by
    unfold typesR
    split
    · rename_i ht
      obtain ⟨j, j1, j2, j3⟩ := hT i hi ht
      rw [j3]
      split
      · rename_i h
        obtain ⟨h1, h2, -⟩ := take_at pl (is_stp pl j2 fair_comma h)
        rw [h1]
        exact (types_pa f (j + 1) _ _ h2).less (by omega)
      · exact (close_pa pl j2 kind 41 fair_round _).less (by omega)
    · rename_i ht
      exact .no ht
theorem round_pa {i : Nat} (hi : i ≤ l.length) (a : Fo) : Pa l i (roundR T a (at' l i)) := by
  unfold roundR
  split
  · exact commas_pa pl _ _ _ hi
  · split
    · rename_i h
      obtain ⟨h1, h2, -⟩ := take_at pl (is_stp pl hi fair_arrow h)
      rw [h1]
      exact (close_pa pl h2 3 41 fair_round _).less (by omega)
    · exact types_pa pl hT _ _ _ _ hi
theorem square_pa {i : Nat} (hi : i ≤ l.length) (a : Fo) : Pa l i (squareR T a (at' l i)) := by
  unfold squareR
  split
  · exact close_pa pl hi 3 93 fair_square a
  · split
    · rename_i ht
      obtain ⟨j, j1, j2, j3⟩ := hT i hi ht
      rw [j3]
      exact (close_pa pl j2 6 93 fair_square _).less (by omega)
    · rename_i ht
      exact .no ht
theorem atom_pa {i : Nat} (hi : i ≤ l.length) : Pa l i (atomR T (at' l i)) := by
  unfold atomR
  split
  · rename_i ht
    split
    · rename_i hs
      obtain ⟨h1, h2, h3⟩ := take_at pl (starts_at pl hi hs)
      split
      · rw [h1]
        exact (round_pa pl hT h2 _).less (by omega)
      · split
        · rw [h1]
          exact (square_pa pl hT h2 _).less (by omega)
        · exact fun _ => ⟨i + 1, by omega, h2, h1⟩
    · exact .no (bad_ne _)
  · rename_i ht
    exact .no ht
omit hT
variable {A : Sx → Rd} (hA : ∀ i, i ≤ l.length → Pa l i (A (at' l i)))
include hA
theorem rowF_pa {i : Nat} : ∀ (f : Nat) (a : Fo) (x : Rd), Pa l i x → Pa l i (rowF A f a x)
  | 0, a, x, h => by
    unfold rowF
    split
    · exact .no (by decide : ¬ (-1 : Int) = 0)
    · exact h
  | f + 1, a, x, h => by
    unfold rowF
    split
    · rename_i hx
      obtain ⟨j, j1, j2, j3⟩ := h hx
      split
      · rw [j3]
        exact rowF_pa f _ _ ((hA j j2).less (by omega))
      · split
        · exact fun _ => ⟨j, j1, j2, j3⟩
        · exact h
    · exact h
theorem row_pa {i : Nat} (hi : i ≤ l.length) : Pa l i (rowR A (at' l i)) := rowF_pa pl hA _ _ _ (hA i hi)
omit hA
variable {R : Sx → Rd} (hR : ∀ i, i ≤ l.length → Pa l i (R (at' l i)))
include hR
theorem arrowF_pa {i : Nat} : ∀ (f j : Nat) (a : Fo), i < j → j ≤ l.length → Pa l i (arrowF R f a (at' l j))
  | 0, j, a, h, hj => .no (by decide : ¬ (-1 : Int) = 0)
  | f + 1, j, a, h, hj => by
    unfold arrowF
    split
    · rename_i hs
      obtain ⟨h1, h2, -⟩ := take_at pl (is_stp pl hj fair_arrow hs)
      rw [h1]
      split
      · rename_i hr
        obtain ⟨k, k1, k2, k3⟩ := hR (j + 1) h2 hr
        rw [k3]
        exact arrowF_pa f k _ (by omega) k2
      · rename_i hr
        exact .no hr
    · exact fun _ => ⟨j, h, hj, rfl⟩
theorem arrows_pa {i : Nat} {x : Rd} (h : Pa l i x) : Pa l i (arrowsR R x) := by
  unfold arrowsR
  split
  · rename_i hx
    obtain ⟨j, j1, j2, j3⟩ := h hx.1
    rw [j3]
    exact arrowF_pa pl hR _ j _ j1 j2
  · exact h
omit hR
theorem clean_pa {i : Nat} {x : Rd} (h : Pa l i x) : Pa l i (cleanR x) := by
  unfold cleanR
  split
  · exact h
  · rename_i hx
    exact .no hx
theorem type_pa : ∀ (d : Nat) {i : Nat}, i ≤ l.length → Pa l i (typeN d (at' l i))
  | 0, i, hi => .no (by decide : ¬ (2 : Int) = 0)
  | d + 1, i, hi => by
    have hA := fun i hi => atom_pa pl (fun i hi => type_pa d hi) (i := i) hi
    have hR := fun i hi => row_pa pl hA (i := i) hi
    exact clean_pa pl (arrows_pa pl hR (hR i hi))
include hT in
theorem full_pa {i : Nat} (hi : i ≤ l.length) : Pa l i (fullR T (at' l i)) := by
  have hA := fun i hi => atom_pa pl hT (i := i) hi
  have hR := fun i hi => row_pa pl hA (i := i) hi
  unfold fullR
  dsimp only
  split
  · rename_i h
    obtain ⟨j, j1, j2, j3⟩ := hR i hi h.1
    rw [j3] at h ⊢
    obtain ⟨h1, h2, -⟩ := take_at pl (is_stp pl j2 fair_imply h.2)
    rw [h1]
    refine clean_pa pl fun e => ?_
    obtain ⟨k, k1, k2, k3⟩ := arrows_pa pl hR (hR (j + 1) h2) e
    exact ⟨k, by omega, k2, k3⟩
  · exact clean_pa pl (arrows_pa pl hR (hR i hi))
end
end Go.Proofs.YtmgclgojmckfhaaGreatDoor.Typ
/-
  A type over a row of plain tokens is read alike over the row of just the tokens that it took: the trees. No program is run here.
-/
namespace Go.Proofs.YtmgclgojmckfhaaGreatDoor.Typ
open Tks Mrk Lay Tre Go.RowKit
set_option linter.unusedSimpArgs false
set_option linter.unusedVariables false
set_option linter.unusedSectionVars false

theorem sameF_app : ∀ {a a' b b' : Fo}, sameF a a' = true → sameF b b' = true → sameF (appF a b) (appF a' b') = true
  | .nil, .nil, b, b', _, h => h
  | .nil, .cons _ _ _, b, b', h, _ => by cases h
  | .cons _ _ _, .nil, b, b', h, _ => by cases h
  | .cons h k r, .cons g q t, b, b', h1, h2 => by
    simp only [sameF, Bool.and_eq_true] at h1
    simp only [appF, sameF, Bool.and_eq_true]
    exact ⟨h1.1, sameF_app h1.2 h2⟩
theorem one_same {x x' : Rd} (h1 : sameH x.h x'.h = true) (h2 : sameF x.k x'.k = true) : sameF (oneF x) (oneF x') = true := by
  simp [oneF, sameF, h1, h2]
theorem push_same {a a' : Fo} {x x' : Rd} (ha : sameF a a' = true) (h1 : sameH x.h x'.h = true) (h2 : sameF x.k x'.k = true) : sameF (pushF a x) (pushF a' x') = true := sameF_app ha (one_same h1 h2)
def Pb (l m : List Tk) (x x' : Rd) : Prop := ∀ j, x.e = 0 → x.s = at' l j → j ≤ m.length → x'.e = 0 ∧ x'.s = at' m j ∧ sameH x.h x'.h = true ∧ sameF x.k x'.k = true
theorem Pb.no {l m : List Tk} {x x' : Rd} (h : x.e ≠ 0) : Pb l m x x' := fun j e => absurd e h
/-- The other row matters only if it goes on. -/
theorem Pb.of {l m : List Tk} {i : Nat} {x x' : Rd} (hp : Pa l i x) (h : i < m.length → Pb l m x x') : Pb l m x x' := fun j e hs hj => by
  obtain ⟨j2, j3, -, j4⟩ := hp e
  have := at_inj (hs.symm.trans j4)
  exact h (by omega) j e hs hj
theorem node_same (k : Int) : sameH (nodeH k) (nodeH k) = true := sameH_self _
theorem rowF_succ (A : Sx → Rd) (f : Nat) (l : Fo) (x : Rd) : rowF A (f + 1) l x = if x.e = 0 then (if startsB (tk x.s) = true then rowF A f (pushF l (A x.s)) (A x.s) else if 1 < len l then ⟨nodeH 39, l, x.s, 0⟩ else x) else x := rfl
section
variable {l m : List Tk} (c : Cut l m)
include c
theorem take_same {i : Nat} (h : Stp l i) (hm : i < m.length) : (takeR (at' m i)).e = 0 ∧ (takeR (at' m i)).s = at' m (i + 1) ∧ sameH (takeR (at' l i)).h (takeR (at' m i)).h = true ∧ sameF (takeR (at' l i)).k (takeR (at' m i)).k = true := by
  obtain ⟨hl, e1, -, -⟩ := take_stp h
  obtain ⟨_, e2, -, -⟩ := take_stp (c.stp hm h)
  obtain ⟨-, -, -, k4, k5⟩ := key_brace (c.key i hl hm)
  rw [e1, e2]
  refine ⟨rfl, rfl, ?_, rfl⟩
  unfold sameH leafH
  dsimp only
  rw [k4, k5]
  simp
theorem close_pb {i : Nat} (hi : i ≤ m.length) (kind : Int) (ch : UInt8) (f : Fair 15 [ch]) {a a' : Fo} (ha : sameF a a' = true) : Pb l m (closeR kind ch a (at' l i)) (closeR kind ch a' (at' m i)) := by
  have hl : i ≤ l.length := Nat.le_trans hi c.le
  refine .of (close_pa c.pl hl kind ch f a) fun hm => ?_
  by_cases q : isR (at' l i) 15 [ch] = true
  · have h1 := is_stp c.pl hl f q
    have q2 : isR (at' m i) 15 [ch] = true := by rw [c.is hm f]; exact q
    obtain ⟨t1, -, t3⟩ := take_at c.pl h1
    obtain ⟨s1, s2, s3, s4⟩ := take_same c h1 hm
    intro j he hs hj
    unfold closeR wantR at *
    rw [if_pos q] at *
    rw [if_pos t3] at *
    rw [if_pos q2, if_pos s1]
    dsimp only at hs ⊢
    rw [t1] at hs
    have := at_inj hs
    subst this
    exact ⟨rfl, s2, node_same kind, push_same ha s3 s4⟩
  · refine .no ?_
    unfold closeR wantR
    rw [if_neg q, if_neg (bad_ne _)]
    exact bad_ne _
theorem commas_pb : ∀ (f g i : Nat) (a a' : Fo), i ≤ m.length → sameF a a' = true → m.length - i < g → Pb l m (commasR f a (at' l i)) (commasR g a' (at' m i))
  | 0, g, i, a, a', hi, ha, hg => .no (by decide : ¬ (-1 : Int) = 0)
  | f + 1, 0, i, a, a', hi, ha, hg => by omega
  | f + 1, g + 1, i, a, a', hi, ha, hg => by
    have hl : i ≤ l.length := Nat.le_trans hi c.le
    refine .of (commas_pa c.pl (f + 1) i a hl) fun hm => ?_
    unfold commasR
    by_cases q : isR (at' l i) 15 [44] = true
    · have h1 := is_stp c.pl hl fair_comma q
      obtain ⟨t1, -, -⟩ := take_at c.pl h1
      obtain ⟨s1, s2, s3, s4⟩ := take_same c h1 hm
      rw [if_pos q, if_pos (by rw [c.is hm fair_comma]; exact q), t1, s2]
      exact commas_pb f g (i + 1) _ _ (by omega) (push_same ha s3 s4) (by omega)
    · have q1 : isR (at' l i) 15 [44] = false := Bool.not_eq_true _ ▸ q
      rw [if_neg q, if_neg (by rw [c.no hi fair_comma q1]; decide)]
      exact close_pb c hi 3 41 fair_round ha
variable {T : Sx → Rd} (hT : ∀ i, i ≤ l.length → Pa l i (T (at' l i))) (hB : ∀ i, i ≤ m.length → Pb l m (T (at' l i)) (T (at' m i)))
include hT hB
theorem types_pb : ∀ (f g i : Nat) (kind : Int) (a a' : Fo), i ≤ m.length → sameF a a' = true → m.length - i < g → Pb l m (typesR T f kind a (at' l i)) (typesR T g kind a' (at' m i))
  | 0, g, i, kind, a, a', hi, ha, hg => .no (by decide : ¬ (-1 : Int) = 0)
  | f + 1, 0, i, kind, a, a', hi, ha, hg => by omega
  | f + 1, g + 1, i, kind, a, a', hi, ha, hg => by
    have hl : i ≤ l.length := Nat.le_trans hi c.le
    unfold typesR
    by_cases ht : (T (at' l i)).e = 0
    · obtain ⟨j, j1, j2, j3⟩ := hT i hl ht
      rw [if_pos ht, j3]
      by_cases q : isR (at' l j) 15 [44] = true
      · have h1 := is_stp c.pl j2 fair_comma q
        obtain ⟨t1, t2, -⟩ := take_at c.pl h1
        rw [if_pos q, t1]
        refine .of ((types_pa c.pl hT f (j + 1) _ _ t2).less (Nat.le_succ j)) fun hm => ?_
        obtain ⟨b1, b2, b3, b4⟩ := hB i hi j ht j3 (by omega)
        obtain ⟨s1, s2, s3, s4⟩ := take_same c h1 hm
        rw [if_pos b1, b2, if_pos (by rw [c.is hm fair_comma]; exact q), s2]
        exact types_pb f g (j + 1) 5 _ _ (by omega) (push_same (push_same ha b3 b4) s3 s4) (by omega)
      · have q1 : isR (at' l j) 15 [44] = false := Bool.not_eq_true _ ▸ q
        rw [if_neg q]
        refine .of (close_pa c.pl j2 kind 41 fair_round _) fun hm => ?_
        obtain ⟨b1, b2, b3, b4⟩ := hB i hi j ht j3 (by omega)
        rw [if_pos b1, b2, if_neg (by rw [c.no (by omega) fair_comma q1]; decide)]
        exact close_pb c (by omega) kind 41 fair_round (push_same ha b3 b4)
    · rw [if_neg ht]
      exact .no ht
theorem fu_big (i : Nat) : m.length - i < fu (at' m i) := by
  unfold fu left
  show m.length - i < 5 * (m.length - ((i : Nat) : Int).toNat) + _ + _ + 1
  rw [Int.toNat_natCast]
  omega
theorem round_pb {i : Nat} (hi : i ≤ m.length) {a a' : Fo} (ha : sameF a a' = true) : Pb l m (roundR T a (at' l i)) (roundR T a' (at' m i)) := by
  have hl : i ≤ l.length := Nat.le_trans hi c.le
  refine .of (round_pa c.pl hT hl a) fun hm => ?_
  unfold roundR
  rw [c.is hm fair_round, c.is hm fair_comma, c.is hm fair_arrow]
  split
  · exact commas_pb c _ _ _ _ _ hi ha (fu_big c hT hB i)
  · split
    · rename_i h
      have h1 := is_stp c.pl hl fair_arrow h
      obtain ⟨t1, -, -⟩ := take_at c.pl h1
      obtain ⟨s1, s2, s3, s4⟩ := take_same c h1 hm
      rw [t1, s2]
      exact close_pb c (by omega) 3 41 fair_round (push_same ha s3 s4)
    · exact types_pb c hT hB _ _ _ _ _ _ hi ha (fu_big c hT hB i)
theorem square_pb {i : Nat} (hi : i ≤ m.length) {a a' : Fo} (ha : sameF a a' = true) : Pb l m (squareR T a (at' l i)) (squareR T a' (at' m i)) := by
  have hl : i ≤ l.length := Nat.le_trans hi c.le
  refine .of (square_pa c.pl hT hl a) fun hm => ?_
  unfold squareR
  rw [c.is hm fair_square]
  split
  · exact close_pb c hi 3 93 fair_square ha
  · by_cases ht : (T (at' l i)).e = 0
    · obtain ⟨j, j1, j2, j3⟩ := hT i hl ht
      rw [if_pos ht, j3]
      refine .of (close_pa c.pl j2 6 93 fair_square _) fun hm2 => ?_
      obtain ⟨b1, b2, b3, b4⟩ := hB i hi j ht j3 (by omega)
      rw [if_pos b1, b2]
      exact close_pb c (by omega) 6 93 fair_square (push_same ha b3 b4)
    · rw [if_neg ht]
      exact .no ht
theorem atom_pb {i : Nat} (hi : i ≤ m.length) : Pb l m (atomR T (at' l i)) (atomR T (at' m i)) := by
  have hl : i ≤ l.length := Nat.le_trans hi c.le
  refine .of (atom_pa c.pl hT hl) fun hm => ?_
  by_cases hs : startsB (tk (at' l i)) = true
  · have h1 := starts_at c.pl hl hs
    have hs2 := c.starts hm hs
    obtain ⟨t1, t2, t3⟩ := take_at c.pl h1
    obtain ⟨s1, s2, s3, s4⟩ := take_same c h1 hm
    obtain ⟨hl2, -, k1, -⟩ := take_stp h1
    obtain ⟨_, -, k2, -⟩ := take_stp (c.stp hm h1)
    obtain ⟨-, -, -, k4, k5⟩ := key_brace (c.key i hl2 hm)
    have e1 : (tk (at' m i)).kind = (tk (at' l i)).kind := by rw [k1, k2, k4]
    have e2 : (tk (at' m i)).text.data.toList = (tk (at' l i)).text.data.toList := by rw [k1, k2, k5]
    unfold atomR
    rw [if_pos t3, if_pos s1, if_pos hs, if_pos hs2, e1, e2]
    split
    · rw [t1, s2]
      exact round_pb c hT hB (by omega) (one_same s3 s4)
    · split
      · rw [t1, s2]
        exact square_pb c hT hB (by omega) (one_same s3 s4)
      · intro j he hs hj
        rw [t1] at hs
        have := at_inj hs
        subst this
        exact ⟨s1, s2, s3, s4⟩
  · refine .no ?_
    unfold atomR
    rw [if_neg hs]
    split
    · exact bad_ne _
    · rename_i h
      exact h
omit hT hB
variable {A : Sx → Rd} (hA : ∀ i, i ≤ l.length → Pa l i (A (at' l i))) (hAb : ∀ i, i ≤ m.length → Pb l m (A (at' l i)) (A (at' m i)))
include hA hAb
theorem rowF_pb : ∀ (f g j : Nat) (a a' : Fo) (x x' : Rd), x.e = 0 → x.s = at' l j → j ≤ l.length → (j ≤ m.length → x'.e = 0 ∧ x'.s = at' m j ∧ sameH x.h x'.h = true ∧ sameF x.k x'.k = true ∧ sameF a a' = true ∧ m.length - j < g) → Pb l m (rowF A f a x) (rowF A g a' x')
  | 0, g, j, a, a', x, x', hx, hj, hl, hm => by
    refine .no ?_
    unfold rowF
    rw [if_pos hx]
    exact (by decide : ¬ (-1 : Int) = 0)
  | f + 1, g, j, a, a', x, x', hx, hj, hl, hm => by
    rw [rowF_succ, if_pos hx, hj]
    by_cases q : startsB (tk (at' l j)) = true
    · rw [if_pos q]
      by_cases h : (A (at' l j)).e = 0
      · obtain ⟨k, k1, k2, k3⟩ := hA j hl h
        refine .of (rowF_pa c.pl hA f _ _ (hA j hl)) fun hm2 => ?_
        obtain ⟨b1, b2, b3, b4, b5, b6⟩ := hm (by omega)
        cases g with
        | zero => omega
        | succ g =>
          rw [rowF_succ, if_pos b1, b2, if_pos (c.starts hm2 q)]
          refine rowF_pb f g k _ _ _ _ h k3 k2 fun hk => ?_
          obtain ⟨d1, d2, d3, d4⟩ := hAb j (by omega) k h k3 hk
          exact ⟨d1, d2, d3, d4, push_same b5 d3 d4, by omega⟩
      · refine .no ?_
        cases f with
        | zero => unfold rowF; rw [if_neg h]; exact h
        | succ f => unfold rowF; rw [if_neg h]; exact h
    · have q1 : startsB (tk (at' l j)) = false := Bool.not_eq_true _ ▸ q
      rw [if_neg q]
      intro j2 he hs hj2
      have hjj : j = j2 := by
        split at hs
        · exact at_inj hs
        · exact at_inj (hj.symm.trans hs)
      subst hjj
      obtain ⟨b1, b2, b3, b4, b5, b6⟩ := hm hj2
      cases g with
      | zero => omega
      | succ g =>
        rw [rowF_succ, if_pos b1, b2, if_neg (by rw [c.nostarts hj2 q1]; decide), ← sameF_len b5]
        split
        · exact ⟨rfl, rfl, node_same 39, b5⟩
        · exact ⟨b1, b2, b3, b4⟩
theorem row_pb {i : Nat} (hi : i ≤ m.length) : Pb l m (rowR A (at' l i)) (rowR A (at' m i)) := by
  have hl : i ≤ l.length := Nat.le_trans hi c.le
  by_cases h : (A (at' l i)).e = 0
  · obtain ⟨k, k1, k2, k3⟩ := hA i hl h
    refine rowF_pb c hA hAb _ _ k _ _ _ _ h k3 k2 fun hk => ?_
    obtain ⟨d1, d2, d3, d4⟩ := hAb i hi k h k3 hk
    refine ⟨d1, d2, d3, d4, one_same d3 d4, ?_⟩
    rw [d2]
    unfold fu left
    show m.length - k < 5 * (m.length - ((k : Nat) : Int).toNat) + _ + _ + 1
    rw [Int.toNat_natCast]
    omega
  · refine .no ?_
    unfold rowR fu rowF
    rw [if_neg h]
    exact h
omit hA hAb
variable {R : Sx → Rd} (hR : ∀ i, i ≤ l.length → Pa l i (R (at' l i))) (hRb : ∀ i, i ≤ m.length → Pb l m (R (at' l i)) (R (at' m i)))
include hR hRb
theorem arrowF_pb : ∀ (f g j : Nat) (a a' : Fo), j ≤ m.length → sameF a a' = true → m.length - j < g → Pb l m (arrowF R f a (at' l j)) (arrowF R g a' (at' m j))
  | 0, g, j, a, a', hj, ha, hg => .no (by decide : ¬ (-1 : Int) = 0)
  | f + 1, 0, j, a, a', hj, ha, hg => by omega
  | f + 1, g + 1, j, a, a', hj, ha, hg => by
    have hl : j ≤ l.length := Nat.le_trans hj c.le
    unfold arrowF
    by_cases q : isR (at' l j) 10 [45, 62] = true
    · have h1 := is_stp c.pl hl fair_arrow q
      obtain ⟨t1, t2, -⟩ := take_at c.pl h1
      rw [if_pos q, t1]
      by_cases h : (R (at' l (j + 1))).e = 0
      · obtain ⟨k, k1, k2, k3⟩ := hR (j + 1) t2 h
        rw [if_pos h, k3]
        intro j2 he hs hj2
        have hk : k ≤ j2 := by
          cases f with
          | zero => exact absurd he (by decide : ¬ (-1 : Int) = 0)
          | succ f =>
            obtain ⟨j3, j4, -, j5⟩ := arrowF_pa c.pl hR (i := j) (f + 1) k _ (by omega) k2 he
            unfold arrowF at he hs
            split at hs
            · rename_i q2
              obtain ⟨u1, u2, -⟩ := take_at c.pl (is_stp c.pl k2 fair_arrow q2)
              rw [u1] at hs
              rw [if_pos q2, u1] at he
              split at hs
              · rename_i h4
                obtain ⟨v, v1, v2, v3⟩ := hR (k + 1) u2 h4
                rw [if_pos h4, v3] at he
                rw [v3] at hs
                obtain ⟨j6, j7, -, j8⟩ := arrowF_pa c.pl hR (i := k) f v _ (by omega) v2 he
                have := at_inj (hs.symm.trans j8)
                omega
              · rename_i h4
                rw [if_neg h4] at he
                exact absurd he h4
            · have := at_inj hs
              omega
        obtain ⟨s1, s2, s3, s4⟩ := take_same c h1 (by omega)
        obtain ⟨d1, d2, d3, d4⟩ := hRb (j + 1) (by omega) k h k3 (by omega)
        rw [if_pos (by rw [c.is (by omega) fair_arrow]; exact q), s2, if_pos d1, d2]
        exact arrowF_pb f g k _ _ (by omega) (push_same (push_same ha s3 s4) d3 d4) (by omega) j2 he hs hj2
      · rw [if_neg h]
        exact .no h
    · have q1 : isR (at' l j) 10 [45, 62] = false := Bool.not_eq_true _ ▸ q
      rw [if_neg q, if_neg (by rw [c.no hj fair_arrow q1]; decide)]
      intro j2 he hs hj2
      have := at_inj hs
      subst this
      exact ⟨rfl, rfl, node_same 37, ha⟩
theorem arrows_pb {i : Nat} {x x' : Rd} (hp : Pa l i x) (h : Pb l m x x') : Pb l m (arrowsR R x) (arrowsR R x') := by
  by_cases hx : x.e = 0
  · obtain ⟨j, j1, j2, j3⟩ := hp hx
    unfold arrowsR
    rw [j3]
    by_cases q : isR (at' l j) 10 [45, 62] = true
    · rw [if_pos ⟨hx, q⟩]
      refine .of (i := j) ?_ fun hm => ?_
      · intro e
        have h0 : fu (at' l j) = left (at' l j).toks (at' l j).at_.toNat (at' l j).opn (at' l j).wait + 1 := rfl
        rw [h0] at e ⊢
        unfold arrowF at e ⊢
        rw [if_pos q] at e ⊢
        obtain ⟨u1, u2, -⟩ := take_at c.pl (is_stp c.pl j2 fair_arrow q)
        rw [u1] at e ⊢
        split at e
        · rename_i h4
          rw [if_pos h4]
          obtain ⟨v, v1, v2, v3⟩ := hR (j + 1) u2 h4
          rw [v3] at e ⊢
          exact arrowF_pa c.pl hR (i := j) _ v _ (by omega) v2 e
        · rename_i h4
          exact absurd e h4
      · obtain ⟨b1, b2, b3, b4⟩ := h j hx j3 (by omega)
        rw [b2, if_pos ⟨b1, by rw [c.is hm fair_arrow]; exact q⟩]
        refine arrowF_pb c hR hRb _ _ j _ _ (by omega) (one_same b3 b4) ?_
        unfold fu left
        show m.length - j < 5 * (m.length - ((j : Nat) : Int).toNat) + _ + _ + 1
        rw [Int.toNat_natCast]
        omega
    · have q1 : isR (at' l j) 10 [45, 62] = false := Bool.not_eq_true _ ▸ q
      rw [if_neg (fun w => q w.2)]
      intro j4 e hs hj
      obtain ⟨b1, b2, b3, b4⟩ := h j4 e hs hj
      have := at_inj (hs.symm.trans j3)
      subst this
      rw [if_neg (fun w => by rw [b2, c.no hj fair_arrow q1] at w; exact absurd w.2 (by decide))]
      exact ⟨b1, b2, b3, b4⟩
  · refine .no ?_
    rw [arrows_e hx]
    exact hx
omit hR hRb
theorem clean_pb {x x' : Rd} (h : Pb l m x x') : Pb l m (cleanR x) (cleanR x') := by
  unfold cleanR
  by_cases hx : x.e = 0
  · rw [if_pos hx]
    intro j e hs hj
    have := h j e hs hj
    rw [if_pos this.1]
    exact this
  · rw [if_neg hx]
    exact .no hx
theorem type_pb : ∀ (d : Nat) {i : Nat}, i ≤ m.length → Pb l m (typeN d (at' l i)) (typeN d (at' m i))
  | 0, i, hi => .no (by decide : ¬ (2 : Int) = 0)
  | d + 1, i, hi => by
    have hl : i ≤ l.length := Nat.le_trans hi c.le
    have hA := fun i hi => atom_pa c.pl (fun i hi => type_pa c.pl d hi) (i := i) hi
    have hR := fun i hi => row_pa c.pl hA (i := i) hi
    have hAb := fun i hi => atom_pb c (fun i hi => type_pa c.pl d hi) (fun i hi => type_pb d hi) (i := i) hi
    have hRb := fun i hi => row_pb c hA hAb (i := i) hi
    exact clean_pb c (arrows_pb c hR hRb (hR i hl) (hRb i hi))
theorem full_pb (d : Nat) {i : Nat} (hi : i ≤ m.length) : Pb l m (fullR (typeN d) (at' l i)) (fullR (typeN d) (at' m i)) := by
  have hl : i ≤ l.length := Nat.le_trans hi c.le
  have hA := fun i hi => atom_pa c.pl (fun i hi => type_pa c.pl d hi) (i := i) hi
  have hR := fun i hi => row_pa c.pl hA (i := i) hi
  have hAb := fun i hi => atom_pb c (fun i hi => type_pa c.pl d hi) (fun i hi => type_pb c d hi) (i := i) hi
  have hRb := fun i hi => row_pb c hA hAb (i := i) hi
  unfold fullR
  dsimp only
  by_cases hx : (rowR (atomR (typeN d)) (at' l i)).e = 0
  · obtain ⟨j, j1, j2, j3⟩ := hR i hl hx
    by_cases q : isR (at' l j) 10 [61, 62] = true
    · rw [if_pos ⟨hx, by rw [j3]; exact q⟩, j3]
      have h1 := is_stp c.pl j2 fair_imply q
      obtain ⟨u1, u2, -⟩ := take_at c.pl h1
      rw [u1]
      refine .of (i := j) (clean_pa c.pl fun e => ?_) fun hm => ?_
      · obtain ⟨k, k1, k2, k3⟩ := arrows_pa c.pl hR (hR (j + 1) u2) e
        exact ⟨k, by omega, k2, k3⟩
      · obtain ⟨b1, b2, b3, b4⟩ := hRb i hi j hx j3 (by omega)
        obtain ⟨s1, s2, s3, s4⟩ := take_same c h1 hm
        rw [if_pos ⟨b1, by rw [b2, c.is hm fair_imply]; exact q⟩, b2, s2]
        refine clean_pb c fun k e hs hk => ?_
        obtain ⟨d1, d2, d3, d4⟩ := arrows_pb c hR hRb (hR (j + 1) u2) (hRb (j + 1) (by omega)) k e hs hk
        exact ⟨d1, d2, node_same 38, push_same (push_same (one_same b3 b4) s3 s4) d3 d4⟩
    · have q1 : isR (at' l j) 10 [61, 62] = false := Bool.not_eq_true _ ▸ q
      rw [if_neg (fun w => q (j3 ▸ w.2))]
      refine .of (clean_pa c.pl (arrows_pa c.pl hR (hR i hl))) fun hm => ?_
      intro k e hs hk
      have e1 : (arrowsR (rowR (atomR (typeN d))) (rowR (atomR (typeN d)) (at' l i))).e = 0 := by rw [← clean_e]; exact e
      have hjk : j ≤ k := by
        have h4 : (cleanR (arrowsR (rowR (atomR (typeN d))) (rowR (atomR (typeN d)) (at' l i)))).s = (arrowsR (rowR (atomR (typeN d))) (rowR (atomR (typeN d)) (at' l i))).s := by
          unfold cleanR
          rw [if_pos e1]
        rw [h4] at hs
        have h5 : Pa l (j - 1) (arrowsR (rowR (atomR (typeN d))) (rowR (atomR (typeN d)) (at' l i))) := arrows_pa c.pl hR (fun _ => ⟨j, by omega, j2, j3⟩)
        obtain ⟨v, v1, v2, v3⟩ := h5 e1
        have := at_inj (hs.symm.trans v3)
        omega
      obtain ⟨b1, b2, b3, b4⟩ := hRb i hi j hx j3 (by omega)
      rw [if_neg (fun w => by rw [b2, c.no (by omega) fair_imply q1] at w; exact absurd w.2 (by decide))]
      exact clean_pb c (arrows_pb c hR hRb (hR i hl) (hRb i hi)) k e hs hk
  · refine .no ?_
    rw [if_neg (fun w => hx w.1), clean_e, arrows_e hx]
    exact hx
end
/-- L5: over just the tokens that it took, a type is read as it was. -/
theorem full_cut {l m : List Tk} (c : Cut l m) (deep : Int) (h : (fullS (at' l 0) deep).e = 0) (hs : (fullS (at' l 0) deep).s = at' l m.length) :
    (fullS (at' m 0) deep).e = 0 ∧ (fullS (at' m 0) deep).s = at' m m.length ∧ sameH (fullS (at' l 0) deep).h (fullS (at' m 0) deep).h = true ∧ sameF (fullS (at' l 0) deep).k (fullS (at' m 0) deep).k = true := by
  unfold fullS at *
  split at h
  · cases h
  · rename_i hd
    rw [if_neg hd] at hs
    rw [if_neg hd, if_neg hd]
    exact full_pb c _ (Nat.zero_le _) m.length h hs (Nat.le_refl _)
/-- Where it ends, and that the tokens passed are the row's first. -/
theorem full_ends {l : List Tk} (pl : ∀ t ∈ l, PlainT t) (deep : Int) (h : (fullS (at' l 0) deep).e = 0) : ∃ j, j ≤ l.length ∧ (fullS (at' l 0) deep).s = at' l j := by
  unfold fullS at *
  split at h
  · cases h
  · rename_i hd
    rw [if_neg hd]
    obtain ⟨j, -, j2, j3⟩ := full_pa pl (fun i hi => type_pa pl (lim deep - 1) hi) (Nat.zero_le _) h
    exact ⟨j, j2, j3⟩
end Go.Proofs.YtmgclgojmckfhaaGreatDoor.Typ
/-
  A type of a row of tokens without marks: its leaves are the row's first tokens; a row with the same first tokens. No program is run here.
-/
namespace Go.Proofs.YtmgclgojmckfhaaGreatDoor.Typ
open Tks Mrk Lay Tre Go.RowKit
set_option linter.unusedSimpArgs false
set_option linter.unusedVariables false

/-- Blocks that have braces, all. -/
def Zo (o : List Int) : Prop := ∀ c ∈ o, c = 0
theorem top_zo {o : List Int} (h : Zo o) : topL o = 0 := by
  unfold topL
  cases hl : o.getLast? with
  | none => rfl
  | some c => exact h c (List.mem_of_getLast? hl)
theorem next_zo {l : List Tk} (pl : ∀ t ∈ l, PlainT t) {i : Nat} {o : List Int} (h : Zo o) (he : er ⟨l, (i : Int), o, 0⟩ = 0) (hk : (tk ⟨l, (i : Int), o, 0⟩).kind ≠ 21) :
    ∃ hl : i < l.length, tk ⟨l, (i : Int), o, 0⟩ = l[i] ∧ ∃ o', Zo o' ∧ nx ⟨l, (i : Int), o, 0⟩ = ⟨l, ((i + 1 : Nat) : Int), o', 0⟩ := by
  unfold er tk nx nextS at *
  by_cases hok : okB ⟨l, (i : Int), o, 0⟩ = true
  rotate_left
  · rw [if_neg hok] at he
    exact absurd he (by decide : ¬ (1 : Int) = 0)
  · rw [if_pos hok] at he hk ⊢
    dsimp only at he hk ⊢
    rw [Int.toNat_natCast] at he hk ⊢
    unfold nextL at *
    rcases Nat.lt_or_ge i l.length with hi | hi
    · refine ⟨hi, ?_⟩
      have hp := pl _ (List.getElem_mem hi)
      unfold PlainT at hp
      rw [List.drop_eq_getElem_cons hi] at he hk ⊢
      unfold nextR at he hk ⊢
      rw [if_neg (by omega), if_neg (by omega), if_neg (by omega)] at he hk ⊢
      by_cases h1 : isShut l[i] = true
      · rw [if_pos h1] at he hk ⊢
        by_cases h2 : o = [] ∨ 0 < topL o
        · rw [if_pos h2] at he
          exact absurd he (by decide : ¬ (90 : Int) = 0)
        · rw [if_neg h2]
          exact ⟨rfl, o.dropLast, fun c hc => h c (List.dropLast_subset o hc), rfl⟩
      · rw [if_neg h1] at he hk ⊢
        by_cases h2 : isOpen l[i] = true
        · rw [if_pos h2]
          exact ⟨rfl, o ++ [0], fun c hc => by
            rcases List.mem_append.1 hc with hc | hc
            · exact h c hc
            · exact List.mem_singleton.1 hc, rfl⟩
        · rw [if_neg h2]
          exact ⟨rfl, o, h, rfl⟩
    · exfalso
      rw [List.drop_eq_nil_of_le hi] at he hk
      unfold nextR at he hk
      by_cases h1 : o = []
      · rw [if_pos h1] at hk
        exact hk rfl
      · rw [if_neg h1, if_neg (by rw [top_zo h]; decide)] at he
        exact absurd he (by decide : ¬ (90 : Int) = 0)
theorem steps_take {l : List Tk} (pl : ∀ t ∈ l, PlainT t) : ∀ (ls : List Tk) (i : Nat) (o : List Int) (t : Sx), Zo o → i ≤ l.length → Steps ⟨l, (i : Int), o, 0⟩ ls t →
    t.at_ = ((i + ls.length : Nat) : Int) ∧ i + ls.length ≤ l.length ∧ ls = (l.drop i).take ls.length
  | [], i, o, t, ho, hi, hs => by
    cases hs
    exact ⟨rfl, hi, by simp⟩
  | x :: ls, i, o, t, ho, hi, hs => by
    obtain ⟨e, hk, hx, hs⟩ : er ⟨l, (i : Int), o, 0⟩ = 0 ∧ (tk ⟨l, (i : Int), o, 0⟩).kind ≠ 21 ∧ x = tk ⟨l, (i : Int), o, 0⟩ ∧ Steps (nx ⟨l, (i : Int), o, 0⟩) ls t := by
      cases hs with
      | cons e k h => exact ⟨e, k, rfl, h⟩
    obtain ⟨hl, h1, o', ho', h2⟩ := next_zo pl ho e hk
    rw [h2] at hs
    obtain ⟨a, b, c⟩ := steps_take pl ls (i + 1) o' t ho' hl hs
    rw [List.length_cons]
    refine ⟨by rw [a]; omega, by omega, ?_⟩
    rw [List.drop_eq_getElem_cons hl, List.take_succ_cons, ← c, hx, h1]
theorem full_take {l : List Tk} (pl : ∀ t ∈ l, PlainT t) (deep : Int) (h : (fullS (at' l 0) deep).e = 0) : ∃ j, j ≤ l.length ∧ (fullS (at' l 0) deep).s = at' l j ∧ leavesN (fullS (at' l 0) deep).h (fullS (at' l 0) deep).k = l.take j := by
  obtain ⟨j, h1, h2⟩ := full_ends pl deep h
  have hs := full_steps (at' l 0) deep h
  obtain ⟨a, b, c⟩ := steps_take pl _ 0 [] _ (fun c hc => by cases hc) (Nat.zero_le _) hs
  rw [h2] at a
  have e : (leavesN (fullS (at' l 0) deep).h (fullS (at' l 0) deep).k).length = j := by
    have a2 : (j : Int) = ((0 + (leavesN (fullS (at' l 0) deep).h (fullS (at' l 0) deep).k).length : Nat) : Int) := a
    omega
  refine ⟨j, h1, h2, ?_⟩
  rw [e] at c
  rw [c, List.drop_zero]
theorem Cut.of_keys {l m : List Tk} (pl : ∀ t ∈ l, PlainT t) {j : Nat} (hj : j ≤ l.length) (h : m.map keyT = (l.take j).map keyT) : Cut l m ∧ m.length = j := by
  have hlen : m.length = j := by
    have e := congrArg List.length h
    rw [List.length_map, List.length_map, List.length_take, Nat.min_eq_left hj] at e
    exact e
  have hkey : ∀ (i : Nat) (hl : i < l.length) (hm : i < m.length), keyT l[i] = keyT m[i] := by
    intro i hl hm
    have e : (m.map keyT)[i]? = ((l.take j).map keyT)[i]? := by rw [h]
    rw [List.getElem?_map, List.getElem?_map, List.getElem?_take, if_pos (by omega), List.getElem?_eq_getElem hl, List.getElem?_eq_getElem hm] at e
    exact (Option.some.inj e).symm
  refine ⟨⟨pl, fun t ht => ?_, by omega, hkey⟩, hlen⟩
  obtain ⟨i, hm, rfl⟩ := List.getElem_of_mem ht
  have hl : i < l.length := by omega
  have hp := pl _ (List.getElem_mem hl)
  have hk : l[i].kind = m[i].kind := congrArg Prod.fst (hkey i hl hm)
  unfold PlainT at hp ⊢
  omega
theorem sameH_symm (a b : Hd) : sameH a b = sameH b a := by
  unfold sameH
  rw [Bool.beq_comm (a := a.kind), Bool.beq_comm (a := a.form), Bool.beq_comm (a := a.text.data.toList)]
theorem sameF_symm : ∀ a b : Fo, sameF a b = sameF b a
  | .nil, .nil => rfl
  | .nil, .cons _ _ _ => rfl
  | .cons _ _ _, .nil => rfl
  | .cons h k r, .cons g l q => by
    unfold sameF
    rw [sameH_symm h g, sameF_symm k l, sameF_symm r q]
/-- L5: what is read of a row, and of a row that has the keys of the tokens that were taken. -/
theorem full_again {l m : List Tk} (pl : ∀ t ∈ l, PlainT t) (deep : Int) (h : (fullS (at' l 0) deep).e = 0) (hm : m.map keyT = (leavesN (fullS (at' l 0) deep).h (fullS (at' l 0) deep).k).map keyT) :
    (fullS (at' m 0) deep).e = 0 ∧ (fullS (at' m 0) deep).s.at_ = (m.length : Int) ∧ (sameH (fullS (at' m 0) deep).h (fullS (at' l 0) deep).h && sameF (fullS (at' m 0) deep).k (fullS (at' l 0) deep).k) = true := by
  obtain ⟨j, h1, h2, h3⟩ := full_take pl deep h
  rw [h3] at hm
  obtain ⟨c, hj⟩ := Cut.of_keys pl h1 hm
  rw [← hj] at h2
  obtain ⟨q1, q2, q3, q4⟩ := full_cut c deep h h2
  refine ⟨q1, by rw [q2]; rfl, ?_⟩
  rw [sameH_symm, sameF_symm, q3, q4]
  rfl
end Go.Proofs.YtmgclgojmckfhaaGreatDoor.Typ
