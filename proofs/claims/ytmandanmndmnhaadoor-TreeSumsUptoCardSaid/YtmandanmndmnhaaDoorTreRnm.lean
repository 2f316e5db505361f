/-
  The program's reader: numbers below a limit. Conditions: texts of at most 2^24 bytes, limits of at most 100.
-/
import Derived.Test.YtmandanmndmnhaaDoorTreRdr
namespace Go.Proofs.YtmandanmndmnhaaDoor.Tre
open Tks Go.RowKit
set_option linter.unusedSimpArgs false
set_option linter.unusedVariables false

theorem digs_take2 : ∀ (m n : Nat) (l : List UInt8), m ≤ n → m ≤ l.length → (∀ c ∈ l.take m, isDig c = true) → digs n l = l.take m ++ digs (n - m) (l.drop m)
  | 0, n, l, _, _, _ => by simp
  | m + 1, 0, l, h, _, _ => absurd h (by omega)
  | m + 1, n + 1, [], _, h, _ => absurd h (by simp)
  | m + 1, n + 1, c :: r, h1, h2, h3 => by
    have hc : isDig c = true := h3 c (by simp)
    have ih := digs_take2 m n r (by omega) (by simpa using h2) (fun d hd => h3 d (by simp [hd]))
    conv => lhs; unfold digs
    rw [if_pos hc, ih, List.take_succ_cons, List.drop_succ_cons, List.cons_append, Nat.add_sub_add_right]
theorem valL_ge : ∀ (l : List UInt8) (v : Nat), v ≤ valL v l
  | [], v => Nat.le_refl _
  | c :: r, v => by
    show v ≤ valL (v * 10 + (c.toNat - 48)) r
    have := valL_ge r (v * 10 + (c.toNat - 48))
    omega
theorem valL_app : ∀ (a b : List UInt8) (v : Nat), valL v (a ++ b) = valL (valL v a) b
  | [], b, v => rfl
  | c :: a, b, v => valL_app a b (v * 10 + (c.toNat - 48))
def numOk (l : List UInt8) (lim : Nat) : Bool := decide (0 ≤ numL l ∧ numL l < (lim : Int))
/-- How far the program has read a number. -/
structure St (l : List UInt8) (lim m val : Nat) : Prop where
  le : m ≤ l.length
  dig : ∀ c ∈ l.take m, isDig c = true
  vl : valL 0 (l.take m) = val
  low : val < lim
  few : (m = 0 ∧ val = 0) ∨ (m = 1 ∧ ∃ c r, l = c :: r ∧ val = c.toNat - 48 ∧ val < 10) ∨ (m = 2 ∧ 10 ≤ val ∧ l.head? ≠ some (byte 48))
theorem St.zero (l : List UInt8) (lim : Nat) (h : 0 < lim) : St l lim 0 0 := by
  have e : l.take 0 = [] := List.take_zero
  refine ⟨Nat.zero_le _, ?_, ?_, h, ?_⟩
  · intro c hc
    rw [e] at hc
    cases hc
  · rw [e]
    rfl
  · exact Or.inl ⟨rfl, rfl⟩
theorem St.two {l : List UInt8} {lim m val : Nat} (h : St l lim m val) : m ≤ 2 := by rcases h.few with ⟨q, _⟩ | ⟨q, _⟩ | ⟨q, _, _⟩ <;> rw [q] <;> decide
theorem St.hundred {l : List UInt8} {lim m val : Nat} (h : St l lim m val) (hl : lim ≤ 100) : val < 100 := by have := h.low; omega
theorem take_next {l : List UInt8} {m : Nat} {c : UInt8} (h : l[m]? = some c) : l.take (m + 1) = l.take m ++ [c] := by
  obtain ⟨hm, e⟩ := List.getElem?_eq_some_iff.1 h
  rw [← e, List.take_succ_eq_append_getElem hm]
theorem St.next_dig {l : List UInt8} {lim m val : Nat} (h : St l lim m val) {c : UInt8} (hc : l[m]? = some c) (hd : isDig c = true) : (∀ x ∈ l.take (m + 1), isDig x = true) ∧ valL 0 (l.take (m + 1)) = 10 * val + (c.toNat - 48) ∧ m + 1 ≤ l.length := by
  rw [take_next hc]
  refine ⟨fun x hx => ?_, ?_, (List.getElem?_eq_some_iff.1 hc).1⟩
  · rcases List.mem_append.1 hx with q | q
    · exact h.dig x q
    · rw [List.mem_singleton.1 q]
      exact hd
  · rw [valL_app, h.vl]
    show val * 10 + (c.toNat - 48) = _
    omega
theorem isDig_iff (c : UInt8) : isDig c = true ↔ 48 ≤ c.toNat ∧ c.toNat ≤ 57 := by
  unfold isDig
  simp only [Bool.and_eq_true, decide_eq_true_eq]
/-- Too great: no number below the limit. -/
theorem St.great {l : List UInt8} {lim m val : Nat} (h : St l lim m val) {c : UInt8} (hc : l[m]? = some c) (hd : isDig c = true) (hg : lim ≤ 10 * val + (c.toNat - 48)) : numOk l lim = false := by
  obtain ⟨h1, h2, h3⟩ := h.next_dig hc hd
  have hq := digs_take2 (m + 1) 3 l (by have := h.two; omega) h3 h1
  unfold numOk
  refine decide_eq_false ?_
  rintro ⟨q1, q2⟩
  unfold numL at q1 q2
  split at q1
  · omega
  · rename_i hn
    rw [if_neg hn, hq, valL_app, h2] at q2
    have := valL_ge (digs (3 - (m + 1)) (l.drop (m + 1))) (10 * val + (c.toNat - 48))
    omega
/-- A nought ahead: no number. -/
theorem St.nought {l : List UInt8} {lim m val : Nat} (h : St l lim m val) {c : UInt8} (hc : l[m]? = some c) (hd : isDig c = true) (hm : 0 < m) (h0 : l.head? = some (byte 48)) : numOk l lim = false := by
  obtain ⟨h1, h2, h3⟩ := h.next_dig hc hd
  have hq := digs_take2 (m + 1) 3 l (by have := h.two; omega) h3 h1
  unfold numOk
  refine decide_eq_false ?_
  rintro ⟨q1, q2⟩
  unfold numL at q1
  rw [if_pos] at q1
  · omega
  · right
    rw [hq]
    have hlen : (l.take (m + 1)).length = m + 1 := by rw [List.length_take]; omega
    refine ⟨?_, by rw [List.length_append, hlen]; omega⟩
    cases l with
    | nil => cases h0
    | cons a r =>
      rw [List.take_succ_cons, List.cons_append, List.head?_cons]
      exact h0
theorem St.next {l : List UInt8} {lim m val : Nat} (h : St l lim m val) (hl : lim ≤ 100) {c : UInt8} (hc : l[m]? = some c) (hd : isDig c = true) (hg : ¬ lim ≤ 10 * val + (c.toNat - 48)) (h0 : ¬ (0 < m ∧ l.head? = some (byte 48))) : St l lim (m + 1) (10 * val + (c.toNat - 48)) := by
  obtain ⟨h1, h2, h3⟩ := h.next_dig hc hd
  have hdd := (isDig_iff c).1 hd
  refine ⟨h3, h1, h2, by omega, ?_⟩
  rcases h.few with ⟨q1, q2⟩ | ⟨q1, a, r, q2, q3, q4⟩ | ⟨q1, q2, _⟩
  · right; left
    subst q1
    cases l with
    | nil => simp at hc
    | cons a r =>
      simp only [List.getElem?_cons_zero, Option.some.injEq] at hc
      exact ⟨rfl, a, r, rfl, by rw [q2, hc]; omega, by rw [q2]; omega⟩
  · right; right
    subst q1
    have hne : ¬ l.head? = some (byte 48) := fun e => h0 ⟨by omega, e⟩
    refine ⟨rfl, ?_, hne⟩
    have ha : isDig a = true := h.dig a (by rw [q2]; simp)
    have ha2 := (isDig_iff a).1 ha
    have : ¬ a.toNat = 48 := fun e => hne (by rw [q2, List.head?_cons, byte_eq e])
    omega
  · omega
/-- The number's end. -/
theorem St.stop {l : List UInt8} {lim m val : Nat} (h : St l lim m val) (hn : NoDig (l.drop m)) : numOk l lim = decide (0 < m) ∧ (0 < m → numL l = (val : Int)) ∧ numE l = m := by
  have hq := digs_take2 m 3 l (by have := h.two; omega) h.le h.dig
  rw [digs_no _ hn, List.append_nil] at hq
  have hlen : (l.take m).length = m := by rw [List.length_take]; have := h.le; omega
  have hE : numE l = m := by unfold numE; rw [hq, hlen]
  have hpos : 0 < m → numL l = (val : Int) := by
    intro hm
    unfold numL
    rw [hq, if_neg, h.vl]
    rintro (e | ⟨e1, e2⟩)
    · rw [e] at hlen
      simp at hlen
      omega
    · rw [hlen] at e2
      rcases h.few with ⟨q1, _⟩ | ⟨q1, _⟩ | ⟨q1, q2, q3⟩
      · omega
      · omega
      · refine q3 ?_
        cases l with
        | nil => simp [q1] at e1
        | cons a r =>
          rw [q1, List.take_succ_cons, List.head?_cons] at e1
          exact e1
  refine ⟨?_, hpos, hE⟩
  unfold numOk
  by_cases hm : 0 < m
  · rw [decide_eq_true hm, hpos hm]
    exact decide_eq_true ⟨by omega, by have := h.low; omega⟩
  · have h0 : m = 0 := by omega
    rw [decide_eq_false hm]
    refine decide_eq_false ?_
    rintro ⟨q1, _⟩
    unfold numL at q1
    rw [hq, h0, if_pos (.inl (by simp))] at q1
    omega
theorem toL_get (t : ByteArray) (m : Nat) (h : m < t.size) : (toL t)[m]? = some t[m] := by
  unfold toL
  rw [Array.getElem?_toList]
  exact Array.getElem?_eq_getElem h
theorem num_wr {val c m : Nat} (hv : val < 100) (h1 : 48 ≤ c) (h2 : c ≤ 57) (hm : m ≤ 16777216) : wrap64 (10 * (val : Int)) = 10 * (val : Int) ∧ IntKind.u8.wrap ((c : Int) - 48) = ((c - 48 : Nat) : Int) ∧ wrap64 ((c - 48 : Nat) : Int) = ((c - 48 : Nat) : Int) ∧ wrap64 (10 * (val : Int) + ((c - 48 : Nat) : Int)) = ((10 * val + (c - 48) : Nat) : Int) ∧ wrap64 ((m : Int) + 1) = ((m + 1 : Nat) : Int) := by
  refine ⟨IntWalk.wrap64_in _ ⟨by omega, by omega⟩, ?_, IntWalk.wrap64_in _ ⟨by omega, by omega⟩, ?_, ?_⟩
  · rw [IntKind.wrap_u8]
    omega
  · rw [IntWalk.wrap64_in _ ⟨by omega, by omega⟩]
    omega
  · rw [IntWalk.wrap64_in _ ⟨by omega, by omega⟩]
    omega
theorem nodig_at {l : List UInt8} {m : Nat} {c : UInt8} (h : l[m]? = some c) (hd : isDig c = false) : NoDig (l.drop m) := by
  obtain ⟨hm, e⟩ := List.getElem?_eq_some_iff.1 h
  rw [List.drop_eq_getElem_cons hm, e]
  intro a r q
  injection q with q _
  rw [← q]
  exact hd
theorem nodig_end {l : List UInt8} {m : Nat} (h : l.length ≤ m) : NoDig (l.drop m) := by
  rw [List.drop_eq_nil_of_le h]
  intro a r q
  cases q
def NumOut (t : ByteArray) (lim : Nat) (R : Nat) (w : World) (e : Ending) (w' : World) : Prop :=
  ∃ (v : Int) (t' : ByteArray), e = .returned (.tuple #[.int .i64 v, .bool (numOk (toL t) lim)]) ∧ Rd w' R t' ∧ Only R w w' ∧ t'.size ≤ t.size ∧ (numOk (toL t) lim = true → v = numL (toL t) ∧ toL t' = (toL t).drop (numE (toL t)))
end Go.Proofs.YtmandanmndmnhaaDoor.Tre
