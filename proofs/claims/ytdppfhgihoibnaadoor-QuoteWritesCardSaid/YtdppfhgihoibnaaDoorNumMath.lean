/-
  Numbers as rows of bytes: how many digits a row begins with, which number, what it is worth, its decimal digits; that a number is one by itself, and that noughts change nothing. No program is run here.
-/
import Derived.Test.YtdppfhgihoibnaaDoorGlyDig
import Derived.Test.YtdppfhgihoibnaaDoorGlyMath
import Derived.Lib.ItoaNum
namespace Go.Proofs.YtdppfhgihoibnaaDoor.Num
open Go.Lib Gly

/-- What a byte is worth as a digit to a base; is it one? -/
def dg (b : Nat) (x : UInt8) : Int := digitI ((x.toNat : Nat) : Int) (b : Int)
def isD (b : Nat) (x : UInt8) : Bool := decide (0 ≤ dg b x)
theorem dg_bd (b : Nat) (x : UInt8) : -1 ≤ dg b x ∧ dg b x ≤ 15 ∧ (0 ≤ dg b x → dg b x < b ∧ 2 ≤ b ∧ b ≤ 16) := by
  have := digV_bd ((x.toNat : Nat) : Int)
  unfold dg digitI
  split <;> omega
theorem dg_small (b : Nat) (h : b < 2) (x : UInt8) : isD b x = false := by
  unfold isD
  rw [decide_eq_false_iff_not]
  intro h0
  have := (dg_bd b x).2.2 h0
  omega
theorem digV_ten (c : Int) (h : 48 ≤ c ∧ c ≤ 57) : digV c = c - 48 := by
  unfold digV wthn
  simp [h.1, h.2]
theorem dg_ten (x : UInt8) (h : 48 ≤ x.toNat ∧ x.toNat ≤ 57) : dg 10 x = (x.toNat : Int) - 48 := by
  unfold dg digitI
  rw [digV_ten _ (by omega)]
  split <;> omega
theorem isD_ten (x : UInt8) : isD 10 x = decide (48 ≤ x.toNat ∧ x.toNat ≤ 57) := by
  unfold isD
  by_cases h : 48 ≤ x.toNat ∧ x.toNat ≤ 57
  · rw [dg_ten x h, decide_eq_true h, decide_eq_true]
    omega
  · rw [decide_eq_false h, decide_eq_false_iff_not]
    unfold dg digitI digV wthn
    simp only [Bool.and_eq_true, decide_eq_true_eq]
    repeat' split
    all_goals omega
theorem dg_ten' (x : UInt8) (h : isD 10 x = true) : dg 10 x = (x.toNat : Int) - 48 ∧ 48 ≤ x.toNat ∧ x.toNat ≤ 57 := by
  rw [isD_ten] at h
  have := of_decide_eq_true h
  exact ⟨dg_ten x this, this⟩

/-- How many digits to a base a row begins with. -/
def run (b : Nat) : List UInt8 → Nat
  | [] => 0
  | x :: L => if isD b x then run b L + 1 else 0
theorem run_le (b : Nat) : ∀ L, run b L ≤ L.length
  | [] => Nat.le_refl _
  | x :: L => by
    have := run_le b L
    rw [run, List.length_cons]
    split <;> omega
theorem run_take (b : Nat) : ∀ (L : List UInt8) (n : Nat), run b (L.take n) = min n (run b L)
  | [], n => by simp [run]
  | x :: L, 0 => by simp [run]
  | x :: L, n + 1 => by
    rw [List.take_succ_cons, run, run, run_take b L n]
    split <;> omega
theorem run_full (b : Nat) : ∀ L, (L.all (isD b) = true) → run b L = L.length
  | [], _ => rfl
  | x :: L, h => by
    rw [List.all_cons, Bool.and_eq_true] at h
    rw [run, if_pos h.1, run_full b L h.2, List.length_cons]
theorem run_allD (b : Nat) : ∀ L : List UInt8, (L.take (run b L)).all (isD b) = true
  | [] => by simp [run]
  | x :: L => by
    rw [run]
    split
    · rename_i h
      rw [List.take_succ_cons, List.all_cons, h, run_allD b L]
      rfl
    · rfl
theorem run_app (b : Nat) : ∀ (L M : List UInt8), L.all (isD b) = true → run b (L ++ M) = L.length + run b M
  | [], M, _ => by simp
  | x :: L, M, h => by
    rw [List.all_cons, Bool.and_eq_true] at h
    rw [List.cons_append, run, if_pos h.1, run_app b L M h.2, List.length_cons]
    omega
theorem run_small (b : Nat) (h : b < 2) : ∀ L, run b L = 0
  | [] => rfl
  | x :: L => by rw [run, dg_small b h x]; rfl
theorem all_drop {P : UInt8 → Bool} : ∀ (L : List UInt8) (n : Nat), L.all P = true → (L.drop n).all P = true
  | L, n, h => by
    rw [List.all_eq_true] at h ⊢
    intro x hx
    exact h x (List.mem_of_mem_drop hx)

/-- The byte at a place; 0 where there is none. -/
def bt (L : List UInt8) (n : Nat) : Nat := (L.getD n 0).toNat
theorem bt_out (L : List UInt8) (n : Nat) (h : L.length ≤ n) : bt L n = 0 := by
  unfold bt
  rw [List.getD_eq_getElem?_getD, List.getElem?_eq_none h]
  rfl
theorem bt_take (L : List UInt8) (n i : Nat) : bt (L.take n) i = if i < n then bt L i else 0 := by
  unfold bt
  split
  · rename_i h
    rw [List.getD_eq_getElem?_getD, List.getElem?_take_of_lt h, ← List.getD_eq_getElem?_getD]
  · rename_i h
    rw [List.getD_eq_getElem?_getD, List.getElem?_eq_none (by rw [List.length_take]; omega)]
    rfl
theorem bt_drop (L : List UInt8) (n i : Nat) : bt (L.drop n) i = bt L (n + i) := by
  unfold bt
  rw [List.getD_eq_getElem?_getD, List.getElem?_drop, ← List.getD_eq_getElem?_getD]
theorem bt_lt (L : List UInt8) (n : Nat) (h : bt L n ≠ 0) : n < L.length := by
  rcases Nat.lt_or_ge n L.length with h1 | h1
  · exact h1
  · exact absurd (bt_out L n h1) h
theorem bt_run (b : Nat) (L : List UInt8) (i : Nat) (h : i < run b L) : ∃ x, L[i]? = some x ∧ isD b x = true := by
  have hl := run_le b L
  have ha := run_allD b L
  rw [List.all_eq_true] at ha
  refine ⟨L[i], List.getElem?_eq_getElem (by omega), ha _ ?_⟩
  have : (L.take (run b L))[i]'(by rw [List.length_take]; omega) = L[i] := by rw [List.getElem_take]
  rw [← this]
  exact List.getElem_mem _
theorem bt_dig (L : List UInt8) (i : Nat) (h : i < run 10 L) : 48 ≤ bt L i ∧ bt L i ≤ 57 := by
  obtain ⟨x, hx, hd⟩ := bt_run 10 L i h
  unfold bt
  rw [List.getD_eq_getElem?_getD, hx]
  exact (dg_ten' x hd).2

/-- Which base a letter stands for; 0: none. -/
def letter (x : Nat) : Nat := if x = 111 ∨ x = 79 then 8 else if x = 120 ∨ x = 88 then 16 else 0
theorem letter_is (x : Nat) : letter x = 0 ∨ letter x = 8 ∨ letter x = 16 := by
  unfold letter
  repeat' split
  all_goals omega
theorem letter_dig (x : Nat) (h : 48 ≤ x ∧ x ≤ 57) : letter x = 0 := by
  unfold letter
  rw [if_neg (by omega), if_neg (by omega)]
theorem letter_zero : letter 0 = 0 := rfl
/-- The base that a row's letter tells; 0: none. -/
def lett (L : List UInt8) : Nat := if bt L 0 = 48 then letter (bt L 1) else 0
theorem lett_is (L : List UInt8) : lett L = 0 ∨ lett L = 8 ∨ lett L = 16 := by
  unfold lett
  split
  · exact letter_is _
  · exact .inl rfl
def endOr (L : List UInt8) (at' oth : Nat) : Nat := if 0 < run 10 (L.drop at') then at' + run 10 (L.drop at') else oth
def fracE (L : List UInt8) (at' : Nat) : Nat := if bt L at' = 46 then endOr L (at' + 1) at' else at'
def expF (L : List UInt8) (at' : Nat) : Nat := if bt L (at' + 1) = 43 ∨ bt L (at' + 1) = 45 then at' + 2 else at' + 1
def expE (L : List UInt8) (at' : Nat) : Nat := if bt L at' = 101 ∨ bt L at' = 69 then endOr L (expF L at') at' else at'

/-- The number that a row begins with. -/
structure Nl where
  kind : Nat
  base : Nat
  beg : Nat
  point : Nat
  mant : Nat
  fin : Nat
def Nl.none : Nl := ⟨0, 0, 0, 0, 0, 0⟩
def lettL (L : List UInt8) : Nl := if 0 < run (lett L) (L.drop 2) then ⟨11, lett L, 2, 0, 0, 2 + run (lett L) (L.drop 2)⟩ else Nl.none
def decL (L : List UInt8) : Nl :=
  if run 10 L = 0 then Nl.none else
  ⟨if run 10 L < expE L (fracE L (run 10 L)) then 12 else 11, 10, 0, run 10 L, fracE L (run 10 L), expE L (fracE L (run 10 L))⟩
def readL (L : List UInt8) : Nl := if 0 < run (lett L) (L.drop 2) then lettL L else decL L

theorem drop_le (b : Nat) (L : List UInt8) (n : Nat) (h : 0 < run b (L.drop n)) : n + run b (L.drop n) ≤ L.length := by
  have := run_le b (L.drop n)
  rw [List.length_drop] at this
  omega
theorem endOr_le (L : List UInt8) (a o : Nat) (h : o ≤ L.length) : endOr L a o ≤ L.length := by
  unfold endOr
  split
  · rename_i h1
    exact drop_le 10 L a h1
  · exact h
theorem endOr_ge (L : List UInt8) (a o : Nat) (h : o ≤ a) : o ≤ endOr L a o := by
  unfold endOr
  split <;> omega
theorem fracE_ge (L : List UInt8) (a : Nat) : a ≤ fracE L a := by
  unfold fracE
  split
  · exact endOr_ge L _ _ (by omega)
  · exact Nat.le_refl _
theorem fracE_le (L : List UInt8) (a : Nat) (h : a ≤ L.length) : fracE L a ≤ L.length := by
  unfold fracE
  split
  · exact endOr_le L _ _ h
  · exact h
theorem expF_ge (L : List UInt8) (a : Nat) : a + 1 ≤ expF L a := by
  unfold expF
  split <;> omega
theorem expE_ge (L : List UInt8) (a : Nat) : a ≤ expE L a := by
  unfold expE
  split
  · exact endOr_ge L _ _ (by have := expF_ge L a; omega)
  · exact Nat.le_refl _
theorem expE_le (L : List UInt8) (a : Nat) (h : a ≤ L.length) : expE L a ≤ L.length := by
  unfold expE
  split
  · exact endOr_le L _ _ h
  · exact h
theorem readL_fin (L : List UInt8) : (readL L).fin ≤ L.length := by
  have h10 := run_le 10 L
  unfold readL
  split
  · rename_i h
    unfold lettL
    rw [if_pos h]
    exact drop_le _ L 2 h
  · unfold decL
    split
    · exact Nat.zero_le _
    · exact expE_le L _ (fracE_le L _ h10)
theorem decL_pos (L : List UInt8) (h : (decL L).kind ≠ 0) : 0 < run 10 L ∧ (decL L).fin = expE L (fracE L (run 10 L)) := by
  unfold decL at h ⊢
  split
  · rename_i h0
    rw [if_pos h0] at h
    exact absurd rfl h
  · exact ⟨by omega, rfl⟩
theorem readL_pos (L : List UInt8) (h : (readL L).kind ≠ 0) : 0 < (readL L).fin := by
  unfold readL at h ⊢
  split
  · rename_i h1
    unfold lettL
    rw [if_pos h1]
    show 0 < 2 + _
    omega
  · rename_i h1
    rw [if_neg h1] at h
    have := decL_pos L h
    have h2 := fracE_ge L (run 10 L)
    have h3 := expE_ge L (fracE L (run 10 L))
    omega
theorem readL_kind (L : List UInt8) : (readL L).kind = 0 ∧ readL L = Nl.none ∨ (readL L).kind = 11 ∨ (readL L).kind = 12 := by
  unfold readL
  split
  · rename_i h1
    unfold lettL
    rw [if_pos h1]
    exact .inr (.inl rfl)
  · unfold decL
    split
    · exact .inl ⟨rfl, rfl⟩
    · show _ ∨ (if _ then 12 else 11) = 11 ∨ _
      by_cases h : run 10 L < expE L (fracE L (run 10 L))
      · exact .inr (.inr (if_pos h))
      · exact .inr (.inl (if_neg h))

/-- The number that a row is, all of it. -/
def wholeL (L : List UInt8) : Nl := if (readL L).fin = L.length then readL L else Nl.none

theorem endOr_take (L : List UInt8) (n a o : Nat) (h : endOr L a o ≤ n) : endOr (L.take n) a o = endOr L a o := by
  unfold endOr at h ⊢
  rw [List.drop_take, run_take]
  split at h
  · rename_i h1
    rw [if_pos h1, if_pos (by omega)]
    omega
  · rename_i h1
    rw [if_neg h1, if_neg (by omega)]
theorem endOr_past (L : List UInt8) (n a o : Nat) (h : n ≤ a) : endOr (L.take n) a o = o := by
  unfold endOr
  rw [List.drop_take, run_take, if_neg (by omega)]
theorem fracE_take (L : List UInt8) (n a : Nat) (h : fracE L a ≤ n) : fracE (L.take n) a = fracE L a := by
  have h0 := fracE_ge L a
  unfold fracE
  rw [bt_take]
  by_cases hn : a < n
  · rw [if_pos hn]
    split
    · rename_i h1
      unfold fracE at h
      rw [if_pos h1] at h
      exact endOr_take L n _ _ h
    · rfl
  · rw [if_neg hn, if_neg (by omega)]
    unfold fracE at h h0
    omega
theorem expE_take (L : List UInt8) (n a : Nat) (h : expE L a ≤ n) : expE (L.take n) a = expE L a := by
  have h0 := expE_ge L a
  unfold expE
  rw [bt_take]
  by_cases hn : a < n
  · rw [if_pos hn]
    split
    · rename_i h1
      unfold expE at h
      rw [if_pos h1] at h
      by_cases hm : a + 1 < n
      · have : expF (L.take n) a = expF L a := by
          unfold expF
          rw [bt_take, if_pos hm]
        rw [this]
        exact endOr_take L n _ _ h
      · rw [endOr_past _ _ _ _ (by have := expF_ge (L.take n) a; omega)]
        have h2 := expF_ge L a
        unfold endOr at h ⊢
        split at h
        · rename_i h3
          omega
        · rename_i h3
          rw [if_neg h3]
    · rfl
  · rw [if_neg hn, if_neg (by omega)]
    unfold expE at h h0
    omega
theorem lett_take (L : List UInt8) (n : Nat) (h : 1 ≤ n) : lett (L.take n) = if 1 < n then lett L else 0 := by
  have e : (if 0 < n then bt L 0 else 0) = bt L 0 := if_pos (by omega)
  unfold lett
  rw [bt_take, bt_take, e]
  by_cases h0 : bt L 0 = 48
  · rw [if_pos h0, if_pos h0]
    by_cases h1 : 1 < n
    · rw [if_pos h1, if_pos h1]
    · rw [if_neg h1, if_neg h1, letter_zero]
  · rw [if_neg h0, if_neg h0]
    split <;> rfl
/-- A number that a row begins with is that number by itself. -/
theorem readL_take (L : List UInt8) (h : (readL L).kind ≠ 0) : readL (L.take (readL L).fin) = readL L := by
  have hp := readL_pos L h
  by_cases h1 : 0 < run (lett L) (L.drop 2)
  · have e : readL L = ⟨11, lett L, 2, 0, 0, 2 + run (lett L) (L.drop 2)⟩ := by
      unfold readL lettL
      rw [if_pos h1, if_pos h1]
    rw [e]
    dsimp only
    have hl : lett (L.take (2 + run (lett L) (L.drop 2))) = lett L := by rw [lett_take _ _ (by omega), if_pos (by omega)]
    have hr : run (lett L) ((L.take (2 + run (lett L) (L.drop 2))).drop 2) = run (lett L) (L.drop 2) := by
      rw [List.drop_take, run_take]
      omega
    unfold readL lettL
    rw [hl, hr, if_pos h1, if_pos h1]
  · have e : readL L = decL L := by
      unfold readL
      rw [if_neg h1]
    rw [e] at h hp ⊢
    obtain ⟨k1, k2⟩ := decL_pos L h
    have g1 := fracE_ge L (run 10 L)
    have g2 := expE_ge L (fracE L (run 10 L))
    have hno : ¬ 0 < run (lett (L.take (decL L).fin)) ((L.take (decL L).fin).drop 2) := by
      rw [lett_take _ _ (by omega), List.drop_take, run_take]
      by_cases hq : 1 < (decL L).fin
      · rw [if_pos hq]
        omega
      · rw [if_neg hq, run_small 0 (by omega)]
        omega
    have hr : readL (L.take (decL L).fin) = decL (L.take (decL L).fin) := by
      unfold readL
      rw [if_neg hno]
    rw [hr, k2]
    have r10 : run 10 (L.take (expE L (fracE L (run 10 L)))) = run 10 L := by
      rw [run_take]
      omega
    unfold decL
    rw [r10, fracE_take L _ _ g2, expE_take L _ _ (Nat.le_refl _)]

/-- A row of decimal digits is a whole number. -/
theorem readL_digits (L : List UInt8) (h0 : L ≠ []) (h : L.all (isD 10) = true) : readL L = ⟨11, 10, 0, L.length, L.length, L.length⟩ := by
  have hr := run_full 10 L h
  have hl : 0 < L.length := List.length_pos_iff.2 h0
  have hlett : lett L = 0 := by
    unfold lett
    split
    · by_cases h1 : 1 < L.length
      · exact letter_dig _ (bt_dig L 1 (by omega))
      · rw [bt_out L 1 (by omega)]
        rfl
    · rfl
  have e1 : fracE L L.length = L.length := by
    unfold fracE
    rw [bt_out L _ (Nat.le_refl _), if_neg (by omega)]
  have e2 : expE L L.length = L.length := by
    unfold expE
    rw [bt_out L _ (Nat.le_refl _), if_neg (by omega)]
  unfold readL decL
  rw [hlett, run_small 0 (by omega), if_neg (by omega), hr, if_neg (by omega), e1, e2, if_neg (by omega)]
theorem wholeL_digits (L : List UInt8) (h0 : L ≠ []) (h : L.all (isD 10) = true) : wholeL L = ⟨11, 10, 0, L.length, L.length, L.length⟩ := by
  unfold wholeL
  rw [readL_digits L h0 h, if_pos rfl]

/-- What a whole number's digits are worth. -/
def valOf (b : Nat) : Nat → List UInt8 → Nat
  | v, [] => v
  | v, x :: L => valOf b (v * b + (dg b x).toNat) L
theorem valOf_ge (b : Nat) (hb : 1 ≤ b) : ∀ (L : List UInt8) (v : Nat), v ≤ valOf b v L
  | [], v => Nat.le_refl _
  | x :: L, v => by
    have h1 := valOf_ge b hb L (v * b + (dg b x).toNat)
    have h2 : v * 1 ≤ v * b := Nat.mul_le_mul_left v hb
    rw [valOf]
    omega
theorem valOf_app (b : Nat) : ∀ (L M : List UInt8) (v : Nat), valOf b v (L ++ M) = valOf b (valOf b v L) M
  | [], M, v => rfl
  | x :: L, M, v => by
    rw [List.cons_append, valOf, valOf, valOf_app b L M]

/-- A whole number is digits to its base, at least one. -/
theorem whole_int (L : List UInt8) (h : (wholeL L).kind = 11) :
    ((wholeL L).base = 8 ∨ (wholeL L).base = 10 ∨ (wholeL L).base = 16) ∧ (wholeL L).beg ≤ 2 ∧ (wholeL L).beg < L.length ∧ (L.drop (wholeL L).beg).all (isD (wholeL L).base) = true ∧
    (if 2 < L.length ∧ 0 < lett L then (lett L, 2) else (10, 0)) = ((wholeL L).base, (wholeL L).beg) := by
  unfold wholeL at h ⊢
  split at h
  · rename_i hf
    rw [if_pos hf]
    by_cases h1 : 0 < run (lett L) (L.drop 2)
    · have e : readL L = ⟨11, lett L, 2, 0, 0, 2 + run (lett L) (L.drop 2)⟩ := by
        unfold readL lettL
        rw [if_pos h1, if_pos h1]
      rw [e] at hf ⊢
      dsimp only at hf ⊢
      have hl : 0 < lett L := by
        rcases Nat.eq_zero_or_pos (lett L) with h2 | h2
        · rw [h2, run_small 0 (by omega)] at h1
          omega
        · exact h2
      have hd := run_allD (lett L) (L.drop 2)
      rw [List.take_of_length_le (by rw [List.length_drop]; omega)] at hd
      refine ⟨by have := lett_is L; omega, Nat.le_refl _, by omega, hd, ?_⟩
      rw [if_pos ⟨by omega, hl⟩]
    · have e : readL L = decL L := by
        unfold readL
        rw [if_neg h1]
      rw [e] at hf h ⊢
      obtain ⟨k1, k2⟩ := decL_pos L (by omega)
      have g1 := fracE_ge L (run 10 L)
      have g2 := expE_ge L (fracE L (run 10 L))
      have hfull : run 10 L = L.length := by
        have h3 : ¬ run 10 L < expE L (fracE L (run 10 L)) := by
          intro h4
          unfold decL at h
          rw [if_neg (by omega)] at h
          dsimp only at h
          rw [if_pos h4] at h
          omega
        omega
      have hall : L.all (isD 10) = true := by
        have := run_allD 10 L
        rwa [hfull, List.take_length] at this
      have ed : decL L = ⟨11, 10, 0, L.length, L.length, L.length⟩ := by
        rw [← e]
        exact readL_digits L (List.length_pos_iff.1 (by omega)) hall
      rw [ed]
      dsimp only
      refine ⟨.inr (.inl rfl), Nat.zero_le _, by omega, hall, ?_⟩
      rw [if_neg]
      rintro ⟨q1, q2⟩
      have : lett L = 0 := by
        unfold lett
        split
        · exact letter_dig _ (bt_dig L 1 (by omega))
        · rfl
      omega
  · exact absurd h (by decide)
end Go.Proofs.YtdppfhgihoibnaaDoor.Num
