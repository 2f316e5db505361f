/-
  What is written of a tree, and what is read of a text: the one undoes the other. No program is run here.
-/
import Derived.Test.YtmandanmndmnhaaDoorTreTxt
namespace Go.Proofs.YtmandanmndmnhaaDoor.Tre
open Tks Go.RowKit
set_option linter.unusedSimpArgs false
set_option linter.unusedVariables false

/-- May a node be, with so many kids, that may be or not? -/
def rightN (h : Hd) (n : Nat) (b : Bool) : Bool :=
  decide (1 ≤ h.kind) && (decide (h.kind < 54) && (if h.kind = 1 then (n == 0) && (decide (0 ≤ h.form) && decide (h.form < 22)) else (h.text.data.toList == []) && (decide (0 ≤ h.form) && (decide (h.form ≤ 1) && b))))
def rightF : Fo → Bool
  | .nil => true
  | .cons h k r => rightN h (len k) (rightF k) && rightF r
/-- What is written of a node, its kids' texts being given. -/
def nodeT (h : Hd) (kids : List UInt8) : List UInt8 :=
  if h.kind = 1 then digL h.form.toNat ++ (byte 34 :: (escL h.text.data.toList ++ [byte 34]))
  else byte 40 :: (digL h.kind.toNat ++ ((if h.form = 1 then [byte 33] else []) ++ (kids ++ [byte 41])))
def showF : Fo → List UInt8
  | .nil => []
  | .cons h k r => byte 32 :: (nodeT h (showF k) ++ showF r)
def hd0 (kind form : Int) (t : ByteArray) : Hd := ⟨kind, form, t, 0, 0⟩
def stripF : Fo → Fo
  | .nil => .nil
  | .cons h k r => .cons (hd0 h.kind h.form h.text) (stripF k) (stripF r)
theorem sameF_strip : ∀ f : Fo, sameF f (stripF f) = true
  | .nil => rfl
  | .cons h k r => by
    show ((sameH h (hd0 h.kind h.form h.text) && sameF k (stripF k)) && sameF r (stripF r)) = true
    rw [sameF_strip k, sameF_strip r]
    simp [sameH, hd0]
def bang (l : List UInt8) : Int × List UInt8 := if l.head? = some (byte 33) then (1, l.drop 1) else (0, l)
/-- A tree that begins there, deep in others; how its kids are read is given. -1: there is none; -2: it is too deep. -/
def nodeR (rk : List UInt8 → Except Int (Fo × List UInt8)) (deep : Nat) (l : List UInt8) : Except Int (Hd × Fo × List UInt8) :=
  if 1000 < deep then .error (-2)
  else if l.head? = some (byte 40) then
    if numL (l.drop 1) < 1 ∨ 54 ≤ numL (l.drop 1) ∨ numL (l.drop 1) = 1 then .error (-1)
    else match rk (bang ((l.drop 1).drop (numE (l.drop 1)))).2 with
      | .error e => .error e
      | .ok (k, q) => if q.head? = some (byte 41) then .ok (hd0 (numL (l.drop 1)) (bang ((l.drop 1).drop (numE (l.drop 1)))).1 ⟨#[]⟩, k, q.drop 1) else .error (-1)
  else if numL l < 0 ∨ 22 ≤ numL l then .error (-1)
  else if (l.drop (numE l)).head? = some (byte 34) then match txtL ((l.drop (numE l)).drop 1) with
    | none => .error (-1)
    | some (t, q) => .ok (hd0 1 (numL l) ⟨t.toArray⟩, .nil, q)
  else .error (-1)
/-- The kids that begin there. -/
def readK : Nat → Nat → List UInt8 → Except Int (Fo × List UInt8)
  | 0, _, _ => .error (-1)
  | f + 1, deep, l =>
    if l.head? = some (byte 32) then
      match nodeR (readK f (deep + 1)) deep (l.drop 1) with
      | .error e => .error e
      | .ok (h, k, q) => match readK f deep q with
        | .error e => .error e
        | .ok (fo, q2) => .ok (.cons h k fo, q2)
    else .ok (.nil, l)

theorem noDig_byte (n : Nat) (h : n < 256) (hn : n < 48 ∨ 57 < n) (r : List UInt8) : NoDig (byte n :: r) := by
  intro c q e
  cases e
  unfold isDig
  rw [byte_nat n h]
  rcases hn with hn | hn
  · rw [decide_eq_false (by omega)]
    rfl
  · rw [decide_eq_false (by omega : ¬ n ≤ 57), Bool.and_false]
theorem byte_ne {a b : Nat} (ha : a < 256) (hb : b < 256) (h : a ≠ b) : byte a ≠ byte b := fun e => h (byte_inj ha hb e)
theorem dig_head (n : Nat) (hn : n < 100) (r : List UInt8) (m : Nat) (hm : m < 256) (hq : m < 48 ∨ 57 < m) : (digL n ++ r).head? ≠ some (byte m) := by
  unfold digL
  split
  · intro e
    simp only [List.cons_append, List.head?_cons, Option.some.injEq] at e
    exact byte_ne (by omega) hm (by omega) e
  · intro e
    simp only [List.cons_append, List.head?_cons, Option.some.injEq] at e
    exact byte_ne (by omega) hm (by omega) e
theorem bytes_back (t : ByteArray) : (⟨t.data.toList.toArray⟩ : ByteArray) = t := by
  cases t
  simp
theorem right_parts {h : Hd} {n : Nat} {b : Bool} (hr : rightN h n b = true) : 1 ≤ h.kind ∧ h.kind < 54 ∧ (h.kind = 1 → n = 0 ∧ 0 ≤ h.form ∧ h.form < 22) ∧ (h.kind ≠ 1 → h.text.data.toList = [] ∧ 0 ≤ h.form ∧ h.form ≤ 1 ∧ b = true) := by
  unfold rightN at hr
  simp only [Bool.and_eq_true, decide_eq_true_eq] at hr
  obtain ⟨h1, h2, h3⟩ := hr
  refine ⟨h1, h2, fun e => ?_, fun e => ?_⟩
  · rw [if_pos e] at h3
    simp only [Bool.and_eq_true, decide_eq_true_eq, beq_iff_eq] at h3
    exact h3
  · rw [if_neg e] at h3
    simp only [Bool.and_eq_true, decide_eq_true_eq, beq_iff_eq] at h3
    exact h3
/-- A node that is written is read, or is too deep. -/
theorem back_node (h : Hd) (k : Fo) (rk : List UInt8 → Except Int (Fo × List UInt8)) (deep : Nat) (r : List UInt8) (hr : rightN h (len k) (rightF k) = true)
    (hk : h.kind ≠ 1 → rk (showF k ++ (byte 41 :: r)) = if deepF k = 0 ∨ deep + 1 + deepF k ≤ 1001 then .ok (stripF k, byte 41 :: r) else .error (-2)) :
    nodeR rk deep (nodeT h (showF k) ++ r) = if deep + deepF k ≤ 1000 then .ok (hd0 h.kind h.form h.text, stripF k, r) else .error (-2) := by
  obtain ⟨h1, h2, h3, h4⟩ := right_parts hr
  unfold nodeR
  by_cases hd : 1000 < deep
  · rw [if_pos hd, if_neg (by omega)]
  rw [if_neg hd]
  by_cases hl : h.kind = 1
  · obtain ⟨hk0, f1, f2⟩ := h3 hl
    have hkn : k = .nil := by
      cases k with
      | nil => rfl
      | cons => simp [len] at hk0
    subst hkn
    have hn : h.form.toNat < 100 := by omega
    have e : nodeT h (showF .nil) ++ r = digL h.form.toNat ++ (byte 34 :: (escL h.text.data.toList ++ byte 34 :: r)) := by
      unfold nodeT
      rw [if_pos hl]
      simp
    rw [e]
    obtain ⟨n1, n2⟩ := num_dig h.form.toNat hn (byte 34 :: (escL h.text.data.toList ++ byte 34 :: r)) (noDig_byte 34 (by omega) (.inl (by omega)) _)
    rw [if_neg (dig_head _ hn _ 40 (by omega) (.inl (by omega))), n1, n2, List.drop_left, if_neg (by omega), List.head?_cons, if_pos rfl, List.drop_succ_cons, List.drop_zero, txt_esc]
    show Except.ok (hd0 1 ((h.form.toNat : Nat) : Int) ⟨h.text.data.toList.toArray⟩, Fo.nil, r) = _
    rw [if_pos (by show deep + 0 ≤ 1000; omega), bytes_back, hl, show ((h.form.toNat : Nat) : Int) = h.form from by omega]
    rfl
  · obtain ⟨t0, f1, f2, -⟩ := h4 hl
    have hn : h.kind.toNat < 100 := by omega
    have e : nodeT h (showF k) ++ r = byte 40 :: (digL h.kind.toNat ++ ((if h.form = 1 then [byte 33] else []) ++ (showF k ++ (byte 41 :: r)))) := by
      unfold nodeT
      rw [if_neg hl]
      simp
    rw [e, List.head?_cons, if_pos rfl, List.drop_succ_cons, List.drop_zero]
    have hrest : NoDig ((if h.form = 1 then [byte 33] else []) ++ (showF k ++ (byte 41 :: r))) := by
      by_cases q : h.form = 1
      · rw [if_pos q]
        exact noDig_byte 33 (by omega) (.inl (by omega)) _
      · rw [if_neg q]
        cases k with
        | nil => exact noDig_byte 41 (by omega) (.inl (by omega)) _
        | cons => exact noDig_byte 32 (by omega) (.inl (by omega)) _
    obtain ⟨n1, n2⟩ := num_dig h.kind.toNat hn _ hrest
    rw [n1, n2, List.drop_left, if_neg (by omega)]
    have hb : bang ((if h.form = 1 then [byte 33] else []) ++ (showF k ++ (byte 41 :: r))) = (h.form, showF k ++ (byte 41 :: r)) := by
      unfold bang
      by_cases q : h.form = 1
      · rw [if_pos q, List.cons_append, List.nil_append, List.head?_cons, if_pos rfl, q]
        rfl
      · rw [if_neg q, List.nil_append]
        have : h.form = 0 := by omega
        rw [if_neg, this]
        intro e2
        cases k with
        | nil =>
          simp only [showF, List.nil_append, List.head?_cons, Option.some.injEq] at e2
          exact byte_ne (by omega) (by omega) (by omega) e2
        | cons =>
          simp only [showF, List.cons_append, List.head?_cons, Option.some.injEq] at e2
          exact byte_ne (by omega) (by omega) (by omega) e2
    rw [hb, hk hl]
    dsimp only
    have ht : h.text = ⟨#[]⟩ := by
      have := bytes_back h.text
      rw [t0] at this
      exact this.symm
    by_cases hq : deep + deepF k ≤ 1000
    · rw [if_pos hq, if_pos (by omega)]
      dsimp only
      rw [List.head?_cons, if_pos rfl, List.drop_succ_cons, List.drop_zero, show ((h.kind.toNat : Nat) : Int) = h.kind from by omega, ht]
    · rw [if_neg hq, if_neg (by omega)]
/-- Kids that are written are read, or are too deep. -/
theorem back_kids : ∀ (k : Fo) (f deep : Nat) (r : List UInt8), rightF k = true → (showF k ++ r).length < f → r.head? ≠ some (byte 32) →
    readK f deep (showF k ++ r) = if deepF k = 0 ∨ deep + deepF k ≤ 1001 then .ok (stripF k, r) else .error (-2)
  | _, 0, _, _, _, hf, _ => absurd hf (by omega)
  | .nil, f + 1, deep, r, _, _, hh => by
    show readK (f + 1) deep r = _
    rw [readK, if_neg hh, if_pos (.inl rfl)]
    rfl
  | .cons h k q, f + 1, deep, r, hr, hf, hh => by
    have hr : (rightN h (len k) (rightF k) && rightF q) = true := hr
    obtain ⟨hr1, hr2⟩ := Bool.and_eq_true_iff.1 hr
    have e : showF (.cons h k q) ++ r = byte 32 :: (nodeT h (showF k) ++ (showF q ++ r)) := by
      simp [showF]
    have hlen : (nodeT h (showF k) ++ (showF q ++ r)).length < f := by
      rw [e, List.length_cons] at hf
      omega
    have hkl : h.kind ≠ 1 → (showF k ++ (byte 41 :: (showF q ++ r))).length < f := by
      intro hl
      unfold nodeT at hlen
      rw [if_neg hl] at hlen
      simp only [List.length_append, List.length_cons, List.length_nil] at hlen ⊢
      omega
    have hkr : h.kind ≠ 1 → rightF k = true := fun hl => ((right_parts hr1).2.2.2 hl).2.2.2
    have hn := back_node h k (readK f (deep + 1)) deep (showF q ++ r) hr1 (fun hl => back_kids k f (deep + 1) (byte 41 :: (showF q ++ r)) (hkr hl) (hkl hl) (by
      rw [List.head?_cons]
      intro e2
      injection e2 with e2
      exact byte_ne (by omega) (by omega) (by omega) e2))
    have hq := back_kids q f deep r hr2 (by rw [List.length_append] at hlen; omega) hh
    rw [e, readK, List.head?_cons, if_pos rfl, List.drop_succ_cons, List.drop_zero, hn]
    have hdp : deepF (.cons h k q) = max (1 + deepF k) (deepF q) := rfl
    by_cases c1 : deep + deepF k ≤ 1000
    · rw [if_pos c1]
      dsimp only
      rw [hq]
      by_cases c2 : deepF q = 0 ∨ deep + deepF q ≤ 1001
      · rw [if_pos c2, if_pos (by rw [hdp]; omega)]
        rfl
      · rw [if_neg c2, if_neg (by rw [hdp]; omega)]
    · rw [if_neg c1, if_neg (by rw [hdp]; omega)]
/-- What is read is written so, and may be. -/
theorem again_node {rk : List UInt8 → Except Int (Fo × List UInt8)} (hrk : ∀ l k q, rk l = .ok (k, q) → l = showF k ++ q ∧ rightF k = true) {deep : Nat} {l q : List UInt8} {h : Hd} {k : Fo}
    (hh : nodeR rk deep l = .ok (h, k, q)) : l = nodeT h (showF k) ++ q ∧ rightN h (len k) (rightF k) = true := by
  unfold nodeR at hh
  split at hh
  · cases hh
  split at hh
  · rename_i h40
    obtain ⟨l2, rfl⟩ : ∃ l2, l = byte 40 :: l2 := by
      cases l with
      | nil => cases h40
      | cons c l2 =>
        simp only [List.head?_cons, Option.some.injEq] at h40
        exact ⟨l2, by rw [h40]⟩
    rw [List.drop_succ_cons, List.drop_zero] at hh
    split at hh
    · cases hh
    rename_i hnum
    split at hh
    · cases hh
    rename_i k2 q2 hk2
    split at hh
    · rename_i h41
      cases hh
      obtain ⟨q3, rfl⟩ : ∃ q3, q2 = byte 41 :: q3 := by
        cases q2 with
        | nil => cases h41
        | cons c q3 =>
          simp only [List.head?_cons, Option.some.injEq] at h41
          exact ⟨q3, by rw [h41]⟩
      rw [List.drop_succ_cons, List.drop_zero]
      obtain ⟨e1, hr⟩ := hrk _ _ _ hk2
      obtain ⟨n, hn⟩ : ∃ n : Nat, numL l2 = n := ⟨(numL l2).toNat, by omega⟩
      have hd := dig_num l2 n (by omega) hn
      have e2 := digs_take 3 l2
      rw [hd] at e2
      have hE : numE l2 = (digL n).length := by unfold numE; rw [hd]
      rw [hE] at e1 ⊢
      generalize l2.drop (digL n).length = l3 at *
      have hb : l3 = (if (bang l3).1 = 1 then [byte 33] else []) ++ (bang l3).2 ∧ ((bang l3).1 = 0 ∨ (bang l3).1 = 1) := by
        unfold bang
        split
        · rename_i h33
          cases l3 with
          | nil => cases h33
          | cons c l4 =>
            simp only [List.head?_cons, Option.some.injEq] at h33
            rw [h33]
            exact ⟨rfl, .inr rfl⟩
        · exact ⟨by simp, .inl rfl⟩
      clear hk2 hd hE
      generalize numL l2 = m at *
      refine ⟨?_, ?_⟩
      · unfold nodeT
        rw [if_neg (by show ¬ m = 1; omega)]
        rw [e2]
        have hk : (hd0 m (bang l3).1 ⟨#[]⟩).kind.toNat = n := by show m.toNat = n; rw [hn]; rfl
        have hf : (hd0 m (bang l3).1 ⟨#[]⟩).form = (bang l3).1 := rfl
        rw [hk, hf]
        have e3 : l3 = (if (bang l3).1 = 1 then [byte 33] else []) ++ (showF k ++ byte 41 :: q3) := by
          rw [← e1]
          exact hb.1
        simp only [List.cons_append, List.append_assoc, List.nil_append]
        rw [← e3]
      · unfold rightN
        have hk : (hd0 m (bang l3).1 ⟨#[]⟩).kind = m := rfl
        have hf : (hd0 m (bang l3).1 ⟨#[]⟩).form = (bang l3).1 := rfl
        have ht : (hd0 m (bang l3).1 ⟨#[]⟩).text.data.toList = [] := rfl
        rw [hk, hf, ht, if_neg (by omega), hr, decide_eq_true (by omega), decide_eq_true (by omega), decide_eq_true (by rcases hb.2 with q | q <;> rw [q] <;> decide), decide_eq_true (by rcases hb.2 with q | q <;> rw [q] <;> decide)]
        rfl
    · cases hh
  · split at hh
    · cases hh
    rename_i hnum
    split at hh
    · rename_i h34
      split at hh
      · cases hh
      rename_i t q2 ht
      cases hh
      obtain ⟨n, hn⟩ : ∃ n : Nat, numL l = n := ⟨(numL l).toNat, by omega⟩
      have hd := dig_num l n (by omega) hn
      have e2 := digs_take 3 l
      rw [hd] at e2
      have hE : numE l = (digL n).length := by unfold numE; rw [hd]
      rw [hE] at h34 ht
      generalize l.drop (digL n).length = l3 at *
      obtain ⟨l4, rfl⟩ : ∃ l4, l3 = byte 34 :: l4 := by
        cases l3 with
        | nil => cases h34
        | cons c l4 =>
          simp only [List.head?_cons, Option.some.injEq] at h34
          exact ⟨l4, by rw [h34]⟩
      rw [List.drop_succ_cons, List.drop_zero] at ht
      have e3 := esc_txt _ l4 t q (Nat.le_refl _) ht
      clear hd hE
      generalize numL l = m at *
      have hk1 : (hd0 1 m ⟨t.toArray⟩).kind = 1 := rfl
      refine ⟨?_, ?_⟩
      · unfold nodeT
        rw [if_pos hk1]
        have hf : (hd0 1 m ⟨t.toArray⟩).form.toNat = n := by show m.toNat = n; rw [hn]; rfl
        have htx : (hd0 1 m ⟨t.toArray⟩).text.data.toList = t := rfl
        rw [hf, htx]
        rw [e3] at e2
        simp only [List.cons_append, List.append_assoc, List.nil_append]
        exact e2
      · unfold rightN
        rw [if_pos hk1]
        have hf : (hd0 1 m ⟨t.toArray⟩).form = m := rfl
        rw [hf, decide_eq_true (by omega : 0 ≤ m), decide_eq_true (by omega : m < 22)]
        rfl
    · cases hh
theorem again_kids : ∀ (f deep : Nat) (l q : List UInt8) (k : Fo), readK f deep l = .ok (k, q) → l = showF k ++ q ∧ rightF k = true
  | 0, _, _, _, _, h => by cases h
  | f + 1, deep, l, q, k, h => by
    rw [readK] at h
    split at h
    · rename_i h32
      obtain ⟨l2, rfl⟩ : ∃ l2, l = byte 32 :: l2 := by
        cases l with
        | nil => cases h32
        | cons c l2 =>
          simp only [List.head?_cons, Option.some.injEq] at h32
          exact ⟨l2, by rw [h32]⟩
      rw [List.drop_succ_cons, List.drop_zero] at h
      split at h
      · cases h
      rename_i hd kd q1 hnd
      split at h
      · cases h
      rename_i fo q2 hfo
      cases h
      obtain ⟨e1, r1⟩ := again_node (fun l k q hq => again_kids f (deep + 1) l q k hq) hnd
      obtain ⟨e2, r2⟩ := again_kids f deep q1 q fo hfo
      refine ⟨?_, ?_⟩
      · rw [e1, e2]
        simp [showF]
      · show (rightN hd (len kd) (rightF kd) && rightF fo) = true
        rw [r1, r2]
        rfl
    · cases h
      exact ⟨rfl, rfl⟩
theorem bang_len (l : List UInt8) : (bang l).2.length ≤ l.length := by
  unfold bang
  split
  · rw [List.length_drop]
    omega
  · exact Nat.le_refl _
theorem node_len (h : Hd) (s : List UInt8) : 0 < (nodeT h s).length := by
  unfold nodeT
  split
  · rw [List.length_append, List.length_cons]
    omega
  · rw [List.length_cons]
    omega
theorem node_short {rk : List UInt8 → Except Int (Fo × List UInt8)} (hrk : ∀ l k q, rk l = .ok (k, q) → l = showF k ++ q ∧ rightF k = true) {deep : Nat} {l q : List UInt8} {h : Hd} {k : Fo} (hh : nodeR rk deep l = .ok (h, k, q)) : q.length < l.length := by
  obtain ⟨e, -⟩ := again_node hrk hh
  have := node_len h (showF k)
  rw [e, List.length_append]
  omega
/-- A node is read alike, where kids are read alike further on. -/
theorem node_congr {rk rk' : List UInt8 → Except Int (Fo × List UInt8)} (deep : Nat) (l : List UInt8) (h : ∀ q, q.length < l.length → rk q = rk' q) : nodeR rk deep l = nodeR rk' deep l := by
  unfold nodeR
  split
  · rfl
  split
  · rename_i h40
    have hl : 0 < l.length := by
      cases l with
      | nil => cases h40
      | cons c r => simp
    rw [h _ (by
      have h1 := bang_len ((l.drop 1).drop (numE (l.drop 1)))
      rw [List.length_drop, List.length_drop] at h1
      omega)]
  · rfl
/-- How much there is left to go is of no matter, if it is enough. -/
theorem read_fuel : ∀ (f g deep : Nat) (l : List UInt8), l.length < f → l.length < g → readK f deep l = readK g deep l
  | 0, _, _, _, h, _ => absurd h (by omega)
  | _ + 1, 0, _, _, _, h => absurd h (by omega)
  | f + 1, g + 1, deep, l, hf, hg => by
    rw [readK, readK]
    by_cases h32 : l.head? = some (byte 32)
    · rw [if_pos h32, if_pos h32]
      have hl : 0 < l.length := by
        cases l with
        | nil => cases h32
        | cons c r => simp
      have hd : (l.drop 1).length = l.length - 1 := List.length_drop ..
      rw [node_congr deep (l.drop 1) (fun q hq => read_fuel f g (deep + 1) q (by omega) (by omega))]
      cases hn : nodeR (readK g (deep + 1)) deep (l.drop 1) with
      | error e => rfl
      | ok p =>
        obtain ⟨h, k, q⟩ := p
        dsimp only
        have hq := node_short (fun l k q hq => again_kids g (deep + 1) l q k hq) hn
        rw [read_fuel f g deep q (by omega) (by omega)]
    · rw [if_neg h32, if_neg h32]
/-- The tree that begins there: what is read, with enough left to go. -/
def readT (deep : Nat) (l : List UInt8) : Except Int (Hd × Fo × List UInt8) := nodeR (readK (l.length + 1) (deep + 1)) deep l
def readKs (deep : Nat) (l : List UInt8) : Except Int (Fo × List UInt8) := readK (l.length + 1) deep l
theorem readT_fuel (f deep : Nat) (l : List UInt8) (h : l.length < f) : readT deep l = nodeR (readK f (deep + 1)) deep l :=
  node_congr deep l (fun q hq => read_fuel _ _ _ q (by omega) (by omega))
/-- The kids, one after the other. -/
theorem readKs_step (deep : Nat) (l : List UInt8) : readKs deep l = if l.head? = some (byte 32) then (match readT deep (l.drop 1) with
      | .error e => .error e
      | .ok (h, k, q) => match readKs deep q with
        | .error e => .error e
        | .ok (fo, q2) => .ok (.cons h k fo, q2)) else .ok (.nil, l) := by
  unfold readKs
  rw [readK]
  by_cases h32 : l.head? = some (byte 32)
  · rw [if_pos h32, if_pos h32]
    have hl : 0 < l.length := by
      cases l with
      | nil => cases h32
      | cons c r => simp
    have hd : (l.drop 1).length = l.length - 1 := List.length_drop ..
    rw [readT_fuel l.length deep (l.drop 1) (by omega)]
    cases hn : nodeR (readK l.length (deep + 1)) deep (l.drop 1) with
    | error e => rfl
    | ok p =>
      obtain ⟨h, k, q⟩ := p
      dsimp only
      have hq := node_short (fun l k q hq => again_kids _ (deep + 1) l q k hq) hn
      rw [read_fuel l.length (q.length + 1) deep q (by omega) (by omega)]
  · rw [if_neg h32, if_neg h32]
/-- K6: what is shown is read as it was, but for places, or is too deep. -/
theorem back_tree (h : Hd) (k : Fo) (hr : rightN h (len k) (rightF k) = true) : readT 1 (nodeT h (showF k)) = if 1 + deepF k ≤ 1000 then .ok (hd0 h.kind h.form h.text, stripF k, []) else .error (-2) := by
  unfold readT
  have hkr : h.kind ≠ 1 → rightF k = true := fun hl => ((right_parts hr).2.2.2 hl).2.2.2
  have := back_node h k (readK ((nodeT h (showF k)).length + 1) (1 + 1)) 1 [] hr (fun hl => back_kids k _ (1 + 1) [byte 41] (hkr hl) (by
    unfold nodeT
    rw [if_neg hl]
    simp only [List.length_append, List.length_cons, List.length_nil]
    omega) (by
    rw [List.head?_cons]
    intro e2
    injection e2 with e2
    exact byte_ne (by omega) (by omega) (by omega) e2))
  rw [List.append_nil] at this
  exact this
/-- K6: what is read is shown so. -/
theorem again_tree {deep : Nat} {l q : List UInt8} {h : Hd} {k : Fo} (hh : readT deep l = .ok (h, k, q)) : l = nodeT h (showF k) ++ q ∧ rightN h (len k) (rightF k) = true :=
  again_node (fun l k q hq => again_kids _ _ l q k hq) hh
end Go.Proofs.YtmandanmndmnhaaDoor.Tre
