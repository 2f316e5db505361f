/-
  The contracts of the document's own escape and one. Condition: the string has at most 2^50 bytes.
-/
import Derived.Test.YtdppfhgihoibnaaDoorQtRfa
namespace Go.Proofs.YtdppfhgihoibnaaDoor.Qt
open Go.RowKit Gly
open Wrd (rn wd)
set_option linter.unusedSimpArgs false
set_option linter.unusedVariables false

theorem nameG_app : ∀ (a b : List (List UInt8)) (i : Nat) (L : List UInt8) (acc : Nat × Nat), nameG (a ++ b) i L acc = nameG b (i + a.length) L (nameG a i L acc)
  | [], b, i, L, acc => by rw [List.nil_append, nameG, List.length_nil, Nat.add_zero]
  | m :: a, b, i, L, acc => by
    rw [List.cons_append, nameG, nameG, nameG_app a b, List.length_cons, show i + 1 + a.length = i + (a.length + 1) by omega]
theorem del_apart : ∀ m ∈ namesL, m ≠ delL.take m.length := by decide +kernel
theorem nameG_none (L : List UInt8) (h : beg delL L = true) : nameG namesL 0 L (0, 0) = (0, 0) := by
  rcases nameG_is namesL 0 L (0, 0) with e | ⟨m, h1, h2, -, -⟩
  · exact e
  · exfalso
    have e1 : L.take m.length = m := beq_iff_eq.1 h2
    have e2 : L.take 3 = delL := beq_iff_eq.1 h
    have hl := (names_short m (List.mem_cons_of_mem _ h1)).2.1
    apply del_apart m h1
    rw [← e2, List.take_take, Nat.min_eq_left hl, e1]
/-- The names, all of them, as the document's own row has them. -/
theorem names_all (L : List UInt8) : nameG names34 0 L (0, 0) = if beg delL L = true then (33, 3) else nameE L := by
  rw [names34_eq, nameG_app]
  have hl : namesL.length = 33 := rfl
  rw [hl, nameG, nameG]
  unfold nameE
  by_cases h : beg delL L = true
  · rw [if_pos h, nameG_none L h, if_pos ⟨by show 0 < 3; decide, h⟩]
    rfl
  · rw [if_neg h, if_neg (fun q => h q.2), if_neg h]
theorem nameG34_step (k : Nat) (hk : k < 34) (L : List UInt8) (acc : Nat × Nat) : nameG (names34.drop k) k L acc = nameG (names34.drop (k + 1)) (k + 1) L (if acc.2 < (names34.getD k []).length ∧ beg (names34.getD k []) L = true then (k, (names34.getD k []).length) else acc) := by
  have hl : names34.length = 34 := rfl
  rw [List.drop_eq_getElem_cons (by omega), nameG, List.getD_eq_getElem?_getD, List.getElem?_eq_getElem (by omega)]
  rfl
theorem names34_len : ∀ k, k < 34 → 2 ≤ (names34.getD k []).length ∧ (names34.getD k []).length ≤ 3 := by decide +kernel
/-- What the document's own escape answers of what follows the backslash at byte n: a number (-2 nothing, -1 none), and, if there is one, where it ends. -/
def EscR (n : Nat) (L : List UInt8) (e : Ending) : Prop :=
  ∃ (v E : Int), e = .returned (.tuple #[.int .i64 v, .int .i64 E]) ∧
    ((hd L = 38 ∧ v = -2 ∧ E = (n : Int) + 2) ∨ (hd L ≠ 38 ∧ ((escE L).2 = 0 ∨ 1114111 < (escE L).1) ∧ v = -1) ∨ (hd L ≠ 38 ∧ (escE L).2 ≠ 0 ∧ (escE L).1 ≤ 1114111 ∧ v = ((escE L).1 : Int) ∧ E = ((n + 1 + (escE L).2 : Nat) : Int)))
theorem esc38 (L : List UInt8) (h : hd L = 38) : (escE L).2 = 0 := by
  rcases Nat.eq_zero_or_pos (escE L).2 with h0 | h0
  · exact h0
  · exact absurd h (escE_bytes L (by omega)).2.2.2.2
theorem escape_none (s : ByteArray) (n : Nat) (hs : s.size ≤ 1125899906842624) (hn : n < s.size) (h : ¬ n + 1 < s.size) (w : World) :
    Calls Tryd.prog 35 #[.string s, .int .i64 (n : Int)] w fun e w' => e = .returned (.tuple #[.int .i64 (-1), .int .i64 ((n : Int) + 1)]) ∧ w = w' := by
  have x0 : decide ((s.size : Int) ≤ (n : Int) + 1) = true := decide_eq_true (by omega)
  clear h
  go_enter Tryd.func35, Tryd.ntmps35
  go_wp2_with fail
  go_ret2
  exact ⟨rfl, rfl⟩
theorem escape_short (s : ByteArray) (n : Nat) (hs : s.size ≤ 1125899906842624) (hn : n + 1 < s.size) (v : Int) (hv : (v != -1) = true) (CS : Hid (∀ W, Calls Tryd.prog 45 #[.int .u8 ((s[n + 1].toNat : Nat) : Int)] W fun e w' => e = .returned (.int .i64 v) ∧ W = w')) (w : World) :
    Calls Tryd.prog 35 #[.string s, .int .i64 (n : Int)] w fun e w' => e = .returned (.tuple #[.int .i64 v, .int .i64 ((n : Int) + 1 + 1)]) ∧ w = w' := by
  have x0 : decide ((s.size : Int) ≤ (n : Int) + 1) = false := decide_eq_false (by omega)
  go_enter Tryd.func35, Tryd.ntmps35
  go_wp2_with fail
  refine (CS.out _).mono ?_
  rintro e w1 ⟨rfl, rfl⟩
  go_wp2_with fail
  go_ret2
  exact ⟨rfl, rfl⟩
theorem escape_ctl (s : ByteArray) (n : Nat) (hs : s.size ≤ 1125899906842624) (hn : n + 1 < s.size) (h94 : s[n + 1].toNat = 94) (h2 : n + 1 + 1 < s.size) (h3 : 64 ≤ s[n + 1 + 1].toNat) (h4 : s[n + 1 + 1].toNat ≤ 95) (CS : Hid (∀ W, Calls Tryd.prog 45 #[.int .u8 ((s[n + 1].toNat : Nat) : Int)] W fun e w' => e = .returned (.int .i64 (-1)) ∧ W = w')) (w : World) :
    Calls Tryd.prog 35 #[.string s, .int .i64 (n : Int)] w fun e w' => e = .returned (.tuple #[.int .i64 (((s[n + 1 + 1].toNat : Nat) : Int) - 64), .int .i64 ((n : Int) + 1 + 2)]) ∧ w = w' := by
  have x0 : decide ((s.size : Int) ≤ (n : Int) + 1) = false := decide_eq_false (by omega)
  have b94 : (((s[n + 1].toNat : Nat) : Int) == 94) = true := by rw [beq_iff_eq]; omega
  have y0 : decide ((n : Int) + 1 + 1 < (s.size : Int)) = true := decide_eq_true (by omega)
  have y1 : decide ((64 : Int) ≤ ((s[n + 1 + 1].toNat : Nat) : Int)) = true := decide_eq_true (by omega)
  have y2 : decide (((s[n + 1 + 1].toNat : Nat) : Int) ≤ 95) = true := decide_eq_true (by omega)
  have hlt := (s[n + 1 + 1]).toNat_lt
  clear h94
  go_enter Tryd.func35, Tryd.ntmps35
  go_wp2_with fail
  refine (CS.out _).mono ?_
  rintro e w1 ⟨rfl, rfl⟩
  go_wp2_with fail
  go_ret2
  exact ⟨rfl, rfl⟩
theorem escape_noctl (s : ByteArray) (n : Nat) (hs : s.size ≤ 1125899906842624) (hn : n + 1 < s.size) (h94 : s[n + 1].toNat = 94) (h2 : n + 1 + 1 < s.size) (h3 : s[n + 1 + 1].toNat < 64 ∨ 95 < s[n + 1 + 1].toNat) (CS : Hid (∀ W, Calls Tryd.prog 45 #[.int .u8 ((s[n + 1].toNat : Nat) : Int)] W fun e w' => e = .returned (.int .i64 (-1)) ∧ W = w')) (w : World) :
    Calls Tryd.prog 35 #[.string s, .int .i64 (n : Int)] w fun e w' => e = .returned (.tuple #[.int .i64 (-1), .int .i64 ((n : Int) + 1)]) ∧ w = w' := by
  have x0 : decide ((s.size : Int) ≤ (n : Int) + 1) = false := decide_eq_false (by omega)
  have b94 : (((s[n + 1].toNat : Nat) : Int) == 94) = true := by rw [beq_iff_eq]; omega
  have y0 : decide ((n : Int) + 1 + 1 < (s.size : Int)) = true := decide_eq_true (by omega)
  by_cases h4 : 64 ≤ s[n + 1 + 1].toNat
  · have y1 : decide ((64 : Int) ≤ ((s[n + 1 + 1].toNat : Nat) : Int)) = true := decide_eq_true (by omega)
    have y2 : decide (((s[n + 1 + 1].toNat : Nat) : Int) ≤ 95) = false := decide_eq_false (by omega)
    clear h94 h3 h4
    go_enter Tryd.func35, Tryd.ntmps35
    go_wp2_with fail
    refine (CS.out _).mono ?_
    rintro e w1 ⟨rfl, rfl⟩
    go_wp2_with fail
    go_ret2
    exact ⟨rfl, rfl⟩
  · have y1 : decide ((64 : Int) ≤ ((s[n + 1 + 1].toNat : Nat) : Int)) = false := decide_eq_false (by omega)
    clear h94 h3 h4
    go_enter Tryd.func35, Tryd.ntmps35
    go_wp2_with fail
    refine (CS.out _).mono ?_
    rintro e w1 ⟨rfl, rfl⟩
    go_wp2_with fail
    go_ret2
    exact ⟨rfl, rfl⟩
theorem escape_endctl (s : ByteArray) (n : Nat) (hs : s.size ≤ 1125899906842624) (hn : n + 1 < s.size) (h94 : s[n + 1].toNat = 94) (h2 : ¬ n + 2 < s.size) (CS : Hid (∀ W, Calls Tryd.prog 45 #[.int .u8 ((s[n + 1].toNat : Nat) : Int)] W fun e w' => e = .returned (.int .i64 (-1)) ∧ W = w')) (w : World) :
    Calls Tryd.prog 35 #[.string s, .int .i64 (n : Int)] w fun e w' => e = .returned (.tuple #[.int .i64 (-1), .int .i64 ((n : Int) + 1)]) ∧ w = w' := by
  have x0 : decide ((s.size : Int) ≤ (n : Int) + 1) = false := decide_eq_false (by omega)
  have b94 : (((s[n + 1].toNat : Nat) : Int) == 94) = true := by rw [beq_iff_eq]; omega
  have y0 : decide ((n : Int) + 1 + 1 < (s.size : Int)) = false := decide_eq_false (by omega)
  clear h94 h2
  go_enter Tryd.func35, Tryd.ntmps35
  go_wp2_with fail
  refine (CS.out _).mono ?_
  rintro e w1 ⟨rfl, rfl⟩
  go_wp2_with fail
  go_ret2
  exact ⟨rfl, rfl⟩
theorem escape_oct (s : ByteArray) (n : Nat) (hs : s.size ≤ 1125899906842624) (hn : n + 1 < s.size) (hc : s[n + 1].toNat = 111) (v E : Int) (CS : Hid (∀ W, Calls Tryd.prog 45 #[.int .u8 ((s[n + 1].toNat : Nat) : Int)] W fun e w' => e = .returned (.int .i64 (-1)) ∧ W = w'))
    (CN : Hid (∀ W, Calls Tryd.prog 46 #[.string s, .int .i64 ((n : Int) + 1 + 1), .int .i64 8] W fun e w' => e = .returned (.tuple #[.int .i64 v, .int .i64 E]) ∧ W = w')) (w : World) :
    Calls Tryd.prog 35 #[.string s, .int .i64 (n : Int)] w fun e w' => e = .returned (.tuple #[.int .i64 v, .int .i64 (E)]) ∧ w = w' := by
  have x0 : decide ((s.size : Int) ≤ (n : Int) + 1) = false := decide_eq_false (by omega)
  have b94 : (((s[n + 1].toNat : Nat) : Int) == 94) = false := by rw [beq_eq_false_iff_ne]; omega
  have b111 : (((s[n + 1].toNat : Nat) : Int) == 111) = true := by rw [beq_iff_eq]; omega
  clear hc
  go_enter Tryd.func35, Tryd.ntmps35
  go_wp2_with fail
  refine (CS.out _).mono ?_
  rintro e w1 ⟨rfl, rfl⟩
  go_wp2_with fail
  refine (CN.out _).mono ?_
  rintro e w1 ⟨rfl, rfl⟩
  go_wp2_with fail
  go_ret2
  exact ⟨rfl, rfl⟩
theorem escape_hex (s : ByteArray) (n : Nat) (hs : s.size ≤ 1125899906842624) (hn : n + 1 < s.size) (hc : s[n + 1].toNat = 120) (v E : Int) (CS : Hid (∀ W, Calls Tryd.prog 45 #[.int .u8 ((s[n + 1].toNat : Nat) : Int)] W fun e w' => e = .returned (.int .i64 (-1)) ∧ W = w'))
    (CN : Hid (∀ W, Calls Tryd.prog 46 #[.string s, .int .i64 ((n : Int) + 1 + 1), .int .i64 16] W fun e w' => e = .returned (.tuple #[.int .i64 v, .int .i64 E]) ∧ W = w')) (w : World) :
    Calls Tryd.prog 35 #[.string s, .int .i64 (n : Int)] w fun e w' => e = .returned (.tuple #[.int .i64 v, .int .i64 (E)]) ∧ w = w' := by
  have x0 : decide ((s.size : Int) ≤ (n : Int) + 1) = false := decide_eq_false (by omega)
  have b94 : (((s[n + 1].toNat : Nat) : Int) == 94) = false := by rw [beq_eq_false_iff_ne]; omega
  have b111 : (((s[n + 1].toNat : Nat) : Int) == 111) = false := by rw [beq_eq_false_iff_ne]; omega
  have b120 : (((s[n + 1].toNat : Nat) : Int) == 120) = true := by rw [beq_iff_eq]; omega
  clear hc
  go_enter Tryd.func35, Tryd.ntmps35
  go_wp2_with fail
  refine (CS.out _).mono ?_
  rintro e w1 ⟨rfl, rfl⟩
  go_wp2_with fail
  refine (CN.out _).mono ?_
  rintro e w1 ⟨rfl, rfl⟩
  go_wp2_with fail
  go_ret2
  exact ⟨rfl, rfl⟩
theorem escape_dec (s : ByteArray) (n : Nat) (hs : s.size ≤ 1125899906842624) (hn : n + 1 < s.size) (hc : 48 ≤ s[n + 1].toNat ∧ s[n + 1].toNat ≤ 57) (v E : Int) (CS : Hid (∀ W, Calls Tryd.prog 45 #[.int .u8 ((s[n + 1].toNat : Nat) : Int)] W fun e w' => e = .returned (.int .i64 (-1)) ∧ W = w'))
    (CN : Hid (∀ W, Calls Tryd.prog 46 #[.string s, .int .i64 ((n : Int) + 1), .int .i64 10] W fun e w' => e = .returned (.tuple #[.int .i64 v, .int .i64 E]) ∧ W = w')) (w : World) :
    Calls Tryd.prog 35 #[.string s, .int .i64 (n : Int)] w fun e w' => e = .returned (.tuple #[.int .i64 v, .int .i64 (E)]) ∧ w = w' := by
  have x0 : decide ((s.size : Int) ≤ (n : Int) + 1) = false := decide_eq_false (by omega)
  have b94 : (((s[n + 1].toNat : Nat) : Int) == 94) = false := by rw [beq_eq_false_iff_ne]; omega
  have b111 : (((s[n + 1].toNat : Nat) : Int) == 111) = false := by rw [beq_eq_false_iff_ne]; omega
  have b120 : (((s[n + 1].toNat : Nat) : Int) == 120) = false := by rw [beq_eq_false_iff_ne]; omega
  have y1 : decide ((48 : Int) ≤ ((s[n + 1].toNat : Nat) : Int)) = true := decide_eq_true (by omega)
  have y2 : decide (((s[n + 1].toNat : Nat) : Int) ≤ 57) = true := decide_eq_true (by omega)
  clear hc
  go_enter Tryd.func35, Tryd.ntmps35
  go_wp2_with fail
  refine (CS.out _).mono ?_
  rintro e w1 ⟨rfl, rfl⟩
  go_wp2_with fail
  refine (CN.out _).mono ?_
  rintro e w1 ⟨rfl, rfl⟩
  go_wp2_with fail
  go_ret2
  exact ⟨rfl, rfl⟩
def valN (x y : Nat) : Int := if y = 0 then -1 else (x : Int)
set_option maxHeartbeats 2000000 in
theorem escape_name (s : ByteArray) (n : Nat) (hs : s.size ≤ 1125899906842624) (hn : n + 1 < s.size) (h94 : s[n + 1].toNat ≠ 94) (h111 : s[n + 1].toNat ≠ 111) (h120 : s[n + 1].toNat ≠ 120) (hdg : ¬ (48 ≤ s[n + 1].toNat ∧ s[n + 1].toNat ≤ 57)) (CS : Hid (∀ W, Calls Tryd.prog 45 #[.int .u8 ((s[n + 1].toNat : Nat) : Int)] W fun e w' => e = .returned (.int .i64 (-1)) ∧ W = w')) (w : World) :
    Calls Tryd.prog 35 #[.string s, .int .i64 (n : Int)] w fun e w' => e = .returned (.tuple #[.int .i64 (if (nameE (rest s (n + 1))).2 = 0 then -1 else ((nameE (rest s (n + 1))).1 : Int)), .int .i64 ((n : Int) + 1 + ((nameE (rest s (n + 1))).2 : Int))]) ∧ Below w.heap.size w w' := by
  have x0 : decide ((s.size : Int) ≤ (n : Int) + 1) = false := decide_eq_false (by omega)
  have b94 : (((s[n + 1].toNat : Nat) : Int) == 94) = false := by rw [beq_eq_false_iff_ne]; omega
  have b111 : (((s[n + 1].toNat : Nat) : Int) == 111) = false := by rw [beq_eq_false_iff_ne]; omega
  have b120 : (((s[n + 1].toNat : Nat) : Int) == 120) = false := by rw [beq_eq_false_iff_ne]; omega
  have cb : ∀ (m : List UInt8), m.length ≤ 1000 → ∀ W, Calls Tryd.prog 48 #[.string s, .int .i64 ((n : Int) + 1), .string ⟨m.toArray⟩] W fun e w' => e = .returned (.bool (beg m (rest s (n + 1)))) ∧ W = w' := fun m hm W => begins_any s (n + 1) m hm hs (by omega) W
  have hall := names_all (rest s (n + 1))
  obtain ⟨z, hz⟩ : ∃ z, nameG names34 0 (rest s (n + 1)) (0, 0) = z := ⟨_, rfl⟩
  have hz3 : (nameE (rest s (n + 1))).2 = z.2 ∧ (z.2 ≠ 0 → (nameE (rest s (n + 1))).1 = if z.1 = 33 then 127 else z.1) ∧ z.2 ≤ 3 ∧ z.1 ≤ 33 := by
    rw [hz] at hall
    rw [hall]
    by_cases hb : beg delL (rest s (n + 1)) = true
    · rw [if_pos hb]
      have : nameE (rest s (n + 1)) = (127, 3) := by unfold nameE; rw [if_pos hb]
      rw [this]
      exact ⟨rfl, fun _ => rfl, by decide, by decide⟩
    · rw [if_neg hb]
      have he : nameE (rest s (n + 1)) = nameG namesL 0 (rest s (n + 1)) (0, 0) := by unfold nameE; rw [if_neg hb]
      rw [he]
      rcases nameG_is namesL 0 (rest s (n + 1)) (0, 0) with e | ⟨m, h1, h2, h3, h4⟩
      · rw [e]
        exact ⟨rfl, fun h => absurd rfl h, by decide, by decide⟩
      · have hl : namesL.length = 33 := rfl
        have := (names_short m (List.mem_cons_of_mem _ h1)).2.1
        refine ⟨rfl, fun _ => ?_, by omega, by omega⟩
        rw [if_neg (by omega)]
  obtain ⟨y1, y2, y3, y4⟩ := hz3
  obtain ⟨X, hX⟩ : ∃ X : Int, (if (nameE (rest s (n + 1))).2 = 0 then -1 else ((nameE (rest s (n + 1))).1 : Int)) = X := ⟨_, rfl⟩
  rw [hX, y1]
  rw [y1] at hX
  obtain ⟨x0', hx0'⟩ : ∃ x, (nameE (rest s (n + 1))).1 = x := ⟨_, rfl⟩
  rw [hx0'] at hX y2
  obtain ⟨G, B, hG, hB⟩ : ∃ (G : Nat → Nat → Nat → Nat × Nat) (B : Nat → Bool), (∀ k x y, G k x y = nameG (names34.drop k) k (rest s (n + 1)) (x, y)) ∧ (∀ k, B k = beg (names34.getD k []) (rest s (n + 1))) := ⟨_, _, fun _ _ _ => rfl, fun _ => rfl⟩
  have HZ : Hid (G 0 0 0 = z) := (hG 0 0 0).trans hz
  have HS : Hid (∀ k x y, k < 34 → G k x y = if y < (names34.getD k []).length ∧ B k = true then G (k + 1) k (names34.getD k []).length else G (k + 1) x y) := by
    intro k x y hk
    rw [hG, nameG34_step k hk, hB]
    split
    · rw [hG]
    · rw [hG]
  have HEND : Hid (∀ x y, G 34 x y = (x, y)) := by
    intro x y
    rw [hG, List.drop_eq_nil_of_le (by decide), nameG]
  have HX := Lib.hid hX
  have Y2 := Lib.hid y2
  have CB : Hid (∀ k, k < 34 → ∀ W, Calls Tryd.prog 48 #[.string s, .int .i64 ((n : Int) + 1), .string ⟨(names34.getD k []).toArray⟩] W fun e w' => e = .returned (.bool (B k)) ∧ W = w') := fun k hk W => by
    rw [hB]
    exact cb _ (by have := names34_len k hk; omega) W
  have HDG : Hid (decide ((48 : Int) ≤ ((s[n + 1].toNat : Nat) : Int)) = true → decide (((s[n + 1].toNat : Nat) : Int) ≤ 57) = false) := by
    intro h
    have := of_decide_eq_true h
    exact decide_eq_false (by omega)
  have Y34 := Lib.hid (show z.2 ≤ 3 ∧ z.1 ≤ 33 from ⟨y3, y4⟩)
  clear hall hz hX y1 y2 y3 y4 cb h94 h111 h120 hdg hG hB hx0'
  obtain ⟨z1, z2⟩ := z
  cases y48 : decide ((48 : Int) ≤ ((s[n + 1].toNat : Nat) : Int)) with
  | true =>
    have y57 := HDG.out y48
    go_enter Tryd.func35, Tryd.ntmps35
    go_wp2_with fail
    refine (CS.out _).mono ?_
    rintro e w1 ⟨rfl, rfl⟩
    go_wp2_with fail
    refine (refnames_any _).mono ?_
    rintro e w2 ⟨rfl, hr2, hb2, hl2⟩
    have R2 := Lib.hid hr2
    have HB2 := Lib.hid hb2
    clear hr2 hb2 hl2
    go_wp2_with fail
    go_loop [8, 9, 11] (fun b v i => ∃ (x y k : Nat), b = .int .i64 (y : Int) ∧ v = .int .i64 (valN x y) ∧ i = .int .i64 (k : Int) ∧ k ≤ 34 ∧ G k x y = (z1, z2)) (fun _ _ i => 34 - (intOf i).toNat)
    case atStart => exact ⟨0, 0, 0, rfl, rfl, rfl, by omega, HZ.out⟩
    case round =>
      obtain ⟨x, y, k, rfl, rfl, rfl, hk0, hq⟩ := hrel
      have HQ := Lib.hid hq
      clear hq
      by_cases hk : k < 34
      · have hce := R2.out.at_ k (by show k < 34; exact hk)
        have hst := HS.out k x y hk
        rw [HQ.out] at hst
        have hln := names34_len k hk
        have c2 := fun W => CB.out k hk W
        generalize B k = bk at *
        generalize names34.getD k [] = m at *
        have hml : ((⟨m.toArray⟩ : ByteArray).size) = m.length := by rw [Lib.size_eq]
        generalize (⟨m.toArray⟩ : ByteArray) = mb at *
        have i0 : (0 : Int) ≤ (k : Int) := by omega
        have i1 : (k : Int) < 34 := by omega
        cases hbg : bk with
        | true =>
          subst hbg
          by_cases hy : y < m.length
          · have x2 : decide ((y : Int) < (mb.size : Int)) = true := decide_eq_true (by omega)
            have x3 : decide (y < mb.size) = true := decide_eq_true (by omega)
            rw [if_pos ⟨hy, rfl⟩] at hst
            have HST := Lib.hid hst
            have C2 := Lib.hid c2
            have HML := Lib.hid hml
            have HLN := Lib.hid hln
            clear hst c2 hml hy hln
            go_wp2_with fail
            refine (C2.out _).mono ?_
            rintro e w1 ⟨rfl, rfl⟩
            go_wp2_with fail
            go_round
            case rel => exact ⟨k, m.length, k + 1, by rw [HML.out], by unfold valN; rw [if_neg (by have := HLN.out; omega)], by go_num, by omega, HST.out.symm⟩
            case measure => simp [intOf]; omega
          · have x2 : decide ((y : Int) < (mb.size : Int)) = false := decide_eq_false (by omega)
            have x3 : decide (y < mb.size) = false := decide_eq_false (by omega)
            rw [if_neg (fun q => hy q.1)] at hst
            have HST := Lib.hid hst
            have C2 := Lib.hid c2
            clear hst c2 hml hy hln
            go_wp2_with fail
            refine (C2.out _).mono ?_
            rintro e w1 ⟨rfl, rfl⟩
            go_wp2_with fail
            go_round
            case rel => exact ⟨x, y, k + 1, rfl, rfl, by go_num, by omega, HST.out.symm⟩
            case measure => simp [intOf]; omega
        | false =>
          subst hbg
          rw [if_neg (fun q => by cases q.2)] at hst
          have HST := Lib.hid hst
          have C2 := Lib.hid c2
          clear hst c2 hml hln
          go_wp2_with fail
          refine (C2.out _).mono ?_
          rintro e w1 ⟨rfl, rfl⟩
          go_wp2_with fail
          go_round
          case rel => exact ⟨x, y, k + 1, rfl, rfl, by go_num, by omega, HST.out.symm⟩
          case measure => simp [intOf]; omega
      · obtain rfl : k = 34 := by omega
        have hq := HQ.out
        rw [HEND.out] at hq
        injection hq with hq1 hq2
        subst hq1
        subst hq2
        have y3 : y ≤ 3 := Y34.out.1
        have y4 : x ≤ 33 := Y34.out.2
        have hx : (if y = 0 then -1 else (x0' : Int)) = X := HX.out
        have hy2 : y ≠ 0 → x0' = if x = 33 then 127 else x := Y2.out
        by_cases h0 : y = 0
        · have hv : valN x y = -1 := by unfold valN; rw [if_pos h0]
          rw [if_pos h0] at hx
          rw [hv]
          subst hx
          clear hv h0
          go_wp2_with fail
          go_ret2
          exact ⟨rfl, HB2.out⟩
        · have hv : valN x y = (x : Int) := by unfold valN; rw [if_neg h0]
          rw [if_neg h0, hy2 h0] at hx
          rw [hv]
          by_cases h33 : x = 33
          · rw [if_pos h33] at hx
            subst hx
            subst h33
            clear hv h0
            go_wp2_with fail
            go_ret2
            exact ⟨rfl, HB2.out⟩
          · rw [if_neg h33] at hx
            subst hx
            have x4 : ((x : Int) == 33) = false := by rw [beq_eq_false_iff_ne]; omega
            clear hv h0 h33
            go_wp2_with fail
            go_ret2
            exact ⟨rfl, HB2.out⟩
  | false =>
    go_enter Tryd.func35, Tryd.ntmps35
    go_wp2_with fail
    refine (CS.out _).mono ?_
    rintro e w1 ⟨rfl, rfl⟩
    go_wp2_with fail
    refine (refnames_any _).mono ?_
    rintro e w2 ⟨rfl, hr2, hb2, hl2⟩
    have R2 := Lib.hid hr2
    have HB2 := Lib.hid hb2
    clear hr2 hb2 hl2
    go_wp2_with fail
    go_loop [8, 9, 11] (fun b v i => ∃ (x y k : Nat), b = .int .i64 (y : Int) ∧ v = .int .i64 (valN x y) ∧ i = .int .i64 (k : Int) ∧ k ≤ 34 ∧ G k x y = (z1, z2)) (fun _ _ i => 34 - (intOf i).toNat)
    case atStart => exact ⟨0, 0, 0, rfl, rfl, rfl, by omega, HZ.out⟩
    case round =>
      obtain ⟨x, y, k, rfl, rfl, rfl, hk0, hq⟩ := hrel
      have HQ := Lib.hid hq
      clear hq
      by_cases hk : k < 34
      · have hce := R2.out.at_ k (by show k < 34; exact hk)
        have hst := HS.out k x y hk
        rw [HQ.out] at hst
        have hln := names34_len k hk
        have c2 := fun W => CB.out k hk W
        generalize B k = bk at *
        generalize names34.getD k [] = m at *
        have hml : ((⟨m.toArray⟩ : ByteArray).size) = m.length := by rw [Lib.size_eq]
        generalize (⟨m.toArray⟩ : ByteArray) = mb at *
        have i0 : (0 : Int) ≤ (k : Int) := by omega
        have i1 : (k : Int) < 34 := by omega
        cases hbg : bk with
        | true =>
          subst hbg
          by_cases hy : y < m.length
          · have x2 : decide ((y : Int) < (mb.size : Int)) = true := decide_eq_true (by omega)
            have x3 : decide (y < mb.size) = true := decide_eq_true (by omega)
            rw [if_pos ⟨hy, rfl⟩] at hst
            have HST := Lib.hid hst
            have C2 := Lib.hid c2
            have HML := Lib.hid hml
            have HLN := Lib.hid hln
            clear hst c2 hml hy hln
            go_wp2_with fail
            refine (C2.out _).mono ?_
            rintro e w1 ⟨rfl, rfl⟩
            go_wp2_with fail
            go_round
            case rel => exact ⟨k, m.length, k + 1, by rw [HML.out], by unfold valN; rw [if_neg (by have := HLN.out; omega)], by go_num, by omega, HST.out.symm⟩
            case measure => simp [intOf]; omega
          · have x2 : decide ((y : Int) < (mb.size : Int)) = false := decide_eq_false (by omega)
            have x3 : decide (y < mb.size) = false := decide_eq_false (by omega)
            rw [if_neg (fun q => hy q.1)] at hst
            have HST := Lib.hid hst
            have C2 := Lib.hid c2
            clear hst c2 hml hy hln
            go_wp2_with fail
            refine (C2.out _).mono ?_
            rintro e w1 ⟨rfl, rfl⟩
            go_wp2_with fail
            go_round
            case rel => exact ⟨x, y, k + 1, rfl, rfl, by go_num, by omega, HST.out.symm⟩
            case measure => simp [intOf]; omega
        | false =>
          subst hbg
          rw [if_neg (fun q => by cases q.2)] at hst
          have HST := Lib.hid hst
          have C2 := Lib.hid c2
          clear hst c2 hml hln
          go_wp2_with fail
          refine (C2.out _).mono ?_
          rintro e w1 ⟨rfl, rfl⟩
          go_wp2_with fail
          go_round
          case rel => exact ⟨x, y, k + 1, rfl, rfl, by go_num, by omega, HST.out.symm⟩
          case measure => simp [intOf]; omega
      · obtain rfl : k = 34 := by omega
        have hq := HQ.out
        rw [HEND.out] at hq
        injection hq with hq1 hq2
        subst hq1
        subst hq2
        have y3 : y ≤ 3 := Y34.out.1
        have y4 : x ≤ 33 := Y34.out.2
        have hx : (if y = 0 then -1 else (x0' : Int)) = X := HX.out
        have hy2 : y ≠ 0 → x0' = if x = 33 then 127 else x := Y2.out
        by_cases h0 : y = 0
        · have hv : valN x y = -1 := by unfold valN; rw [if_pos h0]
          rw [if_pos h0] at hx
          rw [hv]
          subst hx
          clear hv h0
          go_wp2_with fail
          go_ret2
          exact ⟨rfl, HB2.out⟩
        · have hv : valN x y = (x : Int) := by unfold valN; rw [if_neg h0]
          rw [if_neg h0, hy2 h0] at hx
          rw [hv]
          by_cases h33 : x = 33
          · rw [if_pos h33] at hx
            subst hx
            subst h33
            clear hv h0
            go_wp2_with fail
            go_ret2
            exact ⟨rfl, HB2.out⟩
          · rw [if_neg h33] at hx
            subst hx
            have x4 : ((x : Int) == 33) = false := by rw [beq_eq_false_iff_ne]; omega
            clear hv h0 h33
            go_wp2_with fail
            go_ret2
            exact ⟨rfl, HB2.out⟩
theorem refescape_any (s : ByteArray) (n : Nat) (hs : s.size ≤ 1125899906842624) (hn : n < s.size) (w : World) :
    Calls Tryd.prog 35 #[.string s, .int .i64 (n : Int)] w fun e w' => EscR n (rest s (n + 1)) e ∧ Below w.heap.size w w' := by
  by_cases hin : n + 1 < s.size
  · have hh := hd_rest s (n + 1) hin
    have hlt := (s[n + 1]).toNat_lt
    have hd1 : (rest s (n + 1)).drop 1 = rest s (n + 2) := rest_drop s (n + 1) 1
    have cs : ∀ W, Calls Tryd.prog 45 #[.int .u8 ((s[n + 1].toNat : Nat) : Int)] W fun e w' => e = .returned (.int .i64 (shortR (hd (rest s (n + 1))))) ∧ W = w' := fun W => by
      rw [hh]
      exact refshort_any _ hlt W
    have hE : escE (rest s (n + 1)) = if short (hd (rest s (n + 1))) ≠ 0 then (short (hd (rest s (n + 1))), 1)
      else if hd (rest s (n + 1)) = 94 then (if 64 ≤ hd (rest s (n + 2)) ∧ hd (rest s (n + 2)) ≤ 95 then (hd (rest s (n + 2)) - 64, 2) else (0, 0))
      else if hd (rest s (n + 1)) = 111 then lettE 8 (rest s (n + 2))
      else if hd (rest s (n + 1)) = 120 then lettE 16 (rest s (n + 2))
      else if 48 ≤ hd (rest s (n + 1)) ∧ hd (rest s (n + 1)) ≤ 57 then digE 10 (rest s (n + 1))
      else nameE (rest s (n + 1)) := by rw [← hd1]; rfl
    by_cases q0 : short (hd (rest s (n + 1))) ≠ 0
    · have hv : shortR (hd (rest s (n + 1))) = (short (hd (rest s (n + 1))) : Int) := by unfold shortR; rw [if_pos q0]
      rw [if_pos q0] at hE
      have h38 : hd (rest s (n + 1)) ≠ 38 := by intro e; rw [e] at q0; exact q0 rfl
      have hsb := short_bd (hd (rest s (n + 1)))
      rw [hv] at cs
      refine (escape_short s n hs hin _ (by rw [bne_iff_ne]; omega) cs w).mono ?_
      rintro e w' ⟨rfl, rfl⟩
      refine ⟨⟨_, _, rfl, .inr (.inr ⟨h38, by rw [hE]; simp, by rw [hE]; dsimp only; omega, by rw [hE], by rw [hE]; dsimp only; omega⟩)⟩, Below.refl _ _⟩
    rw [if_neg q0] at hE
    by_cases q1 : hd (rest s (n + 1)) = 38
    · have hv : shortR (hd (rest s (n + 1))) = -2 := by rw [q1]; decide
      rw [hv] at cs
      refine (escape_short s n hs hin _ (by decide) cs w).mono ?_
      rintro e w' ⟨rfl, rfl⟩
      exact ⟨⟨_, _, rfl, .inl ⟨q1, rfl, by omega⟩⟩, Below.refl _ _⟩
    have hv : shortR (hd (rest s (n + 1))) = -1 := by unfold shortR; rw [if_neg q0, if_neg q1]
    rw [hv] at cs
    by_cases q2 : hd (rest s (n + 1)) = 94
    · rw [if_pos q2] at hE
      rw [hh] at q2
      by_cases h2 : n + 2 < s.size
      · rw [hd_rest s (n + 2) h2] at hE
        by_cases h3 : 64 ≤ s[n + 2].toNat ∧ s[n + 2].toNat ≤ 95
        · rw [if_pos h3] at hE
          have e2 : s[n + 1 + 1] = s[n + 2] := rfl
          refine (escape_ctl s n hs hin q2 h2 h3.1 h3.2 cs w).mono ?_
          rintro e w' ⟨rfl, rfl⟩
          exact ⟨⟨_, _, rfl, .inr (.inr ⟨q1, by rw [hE]; simp, by rw [hE]; dsimp only; omega, by rw [hE]; show ((s[n + 2].toNat : Nat) : Int) - 64 = ((s[n + 2].toNat - 64 : Nat) : Int); omega, by rw [hE]; dsimp only; omega⟩)⟩, Below.refl _ _⟩
        · rw [if_neg h3] at hE
          refine (escape_noctl s n hs hin q2 h2 (by show s[n + 2].toNat < 64 ∨ 95 < s[n + 2].toNat; omega) cs w).mono ?_
          rintro e w' ⟨rfl, rfl⟩
          exact ⟨⟨_, _, rfl, .inr (.inl ⟨q1, .inl (by rw [hE]), rfl⟩)⟩, Below.refl _ _⟩
      · rw [hd_rest_out s (n + 2) (by omega), if_neg (by omega)] at hE
        refine (escape_endctl s n hs hin q2 h2 cs w).mono ?_
        rintro e w' ⟨rfl, rfl⟩
        exact ⟨⟨_, _, rfl, .inr (.inl ⟨q1, .inl (by rw [hE]), rfl⟩)⟩, Below.refl _ _⟩
    rw [if_neg q2] at hE
    have num : ∀ (b : Nat), 2 ≤ b → b ≤ 16 → ∀ W, Calls Tryd.prog 46 #[.string s, .int .i64 ((n : Int) + 1 + 1), .int .i64 (b : Int)] W fun e w' => e = .returned (.tuple #[.int .i64 (if (digE b (rest s (n + 2))).2 = 0 ∨ 1114111 < (digE b (rest s (n + 2))).1 then -1 else ((digE b (rest s (n + 2))).1 : Int)), .int .i64 ((n + 2 + (digE b (rest s (n + 2))).2 : Nat) : Int)]) ∧ W = w' := fun b hb hb2 W => by
      have := refnumber_any s (n + 2) b hb hb2 hs (by omega) W
      have e : ((n + 2 : Nat) : Int) = (n : Int) + 1 + 1 := by omega
      rw [e] at this
      exact this
    have lett : ∀ (b : Nat), lettE b (rest s (n + 2)) = if (digE b (rest s (n + 2))).2 = 0 then (0, 0) else ((digE b (rest s (n + 2))).1, (digE b (rest s (n + 2))).2 + 1) := fun b => rfl
    have fin : ∀ (b : Nat) (w' : World), escE (rest s (n + 1)) = lettE b (rest s (n + 2)) → EscR n (rest s (n + 1)) (.returned (.tuple #[.int .i64 (if (digE b (rest s (n + 2))).2 = 0 ∨ 1114111 < (digE b (rest s (n + 2))).1 then -1 else ((digE b (rest s (n + 2))).1 : Int)), .int .i64 ((n + 2 + (digE b (rest s (n + 2))).2 : Nat) : Int)])) := by
      intro b w' hE
      rw [lett] at hE
      refine ⟨_, _, rfl, .inr ?_⟩
      by_cases h0 : (digE b (rest s (n + 2))).2 = 0
      · rw [if_pos h0] at hE
        exact .inl ⟨q1, .inl (by rw [hE]), by rw [if_pos (.inl h0)]⟩
      · rw [if_neg h0] at hE
        by_cases h1 : 1114111 < (digE b (rest s (n + 2))).1
        · exact .inl ⟨q1, .inr (by rw [hE]; exact h1), by rw [if_pos (.inr h1)]⟩
        · refine .inr ⟨q1, by rw [hE]; simp, by rw [hE]; dsimp only; omega, ?_, by rw [hE]; dsimp only; omega⟩
          rw [if_neg (by omega), hE]
    by_cases q3 : hd (rest s (n + 1)) = 111
    · rw [if_pos q3] at hE
      refine (escape_oct s n hs hin (by omega) _ _ cs (num 8 (by omega) (by omega)) w).mono ?_
      rintro e w' ⟨rfl, rfl⟩
      exact ⟨fin 8 w hE, Below.refl _ _⟩
    rw [if_neg q3] at hE
    by_cases q4 : hd (rest s (n + 1)) = 120
    · rw [if_pos q4] at hE
      refine (escape_hex s n hs hin (by omega) _ _ cs (num 16 (by omega) (by omega)) w).mono ?_
      rintro e w' ⟨rfl, rfl⟩
      exact ⟨fin 16 w hE, Below.refl _ _⟩
    rw [if_neg q4] at hE
    by_cases q5 : 48 ≤ hd (rest s (n + 1)) ∧ hd (rest s (n + 1)) ≤ 57
    · rw [if_pos q5] at hE
      refine (escape_dec s n hs hin (by omega) _ _ cs (fun W => refnumber_any s (n + 1) 10 (by omega) (by omega) hs (by omega) W) w).mono ?_
      rintro e w' ⟨rfl, rfl⟩
      refine ⟨⟨_, _, rfl, .inr ?_⟩, Below.refl _ _⟩
      rw [hE]
      by_cases h0 : (digE 10 (rest s (n + 1))).2 = 0 ∨ 1114111 < (digE 10 (rest s (n + 1))).1
      · exact .inl ⟨q1, h0, by rw [if_pos h0]⟩
      · exact .inr ⟨q1, by omega, by omega, by rw [if_neg h0], rfl⟩
    rw [if_neg q5] at hE
    refine (escape_name s n hs hin (by omega) (by omega) (by omega) (by omega) cs w).mono ?_
    rintro e w' ⟨rfl, hb⟩
    refine ⟨⟨_, _, rfl, .inr ?_⟩, hb⟩
    rw [hE]
    by_cases h0 : (nameE (rest s (n + 1))).2 = 0
    · exact .inl ⟨q1, .inl h0, by rw [if_pos h0]⟩
    · have h127 : (nameE (rest s (n + 1))).1 ≤ 127 := by
        rcases nameE_is (rest s (n + 1)) with e | ⟨m, -, -, -, h⟩
        · rw [e]; decide
        · exact h
      exact .inr ⟨q1, h0, by omega, by rw [if_neg h0], by omega⟩
  · have hr : rest s (n + 1) = [] := rest_nil s _ (by omega)
    refine (escape_none s n hs hn hin w).mono ?_
    rintro e w' ⟨rfl, rfl⟩
    refine ⟨⟨_, _, rfl, .inr (.inl ⟨?_, .inl ?_, rfl⟩)⟩, Below.refl _ _⟩
    · rw [hr]; decide
    · rw [hr]; decide +kernel
end Go.Proofs.YtdppfhgihoibnaaDoor.Qt
