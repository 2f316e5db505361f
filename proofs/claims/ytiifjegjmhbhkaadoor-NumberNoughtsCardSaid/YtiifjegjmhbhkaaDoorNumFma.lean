/-
  Broken numbers as rows of bytes: their digits, their exponent, their amount; when two numbers are worth the same; noughts ahead and behind. No program is run here.
-/
import Derived.Test.YtiifjegjmhbhkaaDoorNumNum
namespace Go.Proofs.YtiifjegjmhbhkaaDoor.Num
open Go.Lib Gly

/-- Decimal's answer. -/
def decS (L : List UInt8) : List UInt8 × Int :=
  if (wholeL L).kind = 11 then (if 1000 < L.length then ([], 3) else (decDigits (valOf (wholeL L).base 0 (L.drop (wholeL L).beg)), 0)) else ([], 40)

def fracL (L : List UInt8) : List UInt8 := (L.drop ((wholeL L).point + 1)).take ((wholeL L).mant - (wholeL L).point - 1)
def allL (L : List UInt8) : List UInt8 := L.take (wholeL L).point ++ fracL L
def expX (L : List UInt8) : List UInt8 := L.drop (expF L (wholeL L).mant)
def expV (L : List UInt8) : Nat := if (wholeL L).mant < L.length then valOf 10 0 (expX L) else 0
def expI (L : List UInt8) : Int := if bt L ((wholeL L).mant + 1) = 45 then -(expV L : Int) else (expV L : Int)
/-- Float's answer. -/
def floatS (L : List UInt8) : List UInt8 × Int × Int :=
  if (wholeL L).kind = 12 then
    (if 1000 < L.length ∨ 1000000000 < expV L then ([], 0, 3) else ((shortS (allL L) (expI L - ((fracL L).length : Int))).1, (shortS (allL L) (expI L - ((fracL L).length : Int))).2, 0))
  else ([], 0, 40)
/-- What a number of either kind is worth. -/
def amS (L : List UInt8) : List UInt8 × Int × Int :=
  if (decS L).2 = 0 then ((shortS (decS L).1 0).1, (shortS (decS L).1 0).2, 0) else floatS L
def sameS (A B : List UInt8) : Bool := decide ((amS A).2.2 = 0 ∧ (amS B).2.2 = 0 ∧ (amS A).1 = (amS B).1 ∧ (amS A).2.1 = (amS B).2.1)

theorem decL_float (L : List UInt8) (h : (wholeL L).kind = 12) : wholeL L = decL L ∧ 0 < run 10 L ∧ run 10 L < L.length ∧ (wholeL L).point = run 10 L ∧ (wholeL L).mant = fracE L (run 10 L) ∧ (wholeL L).fin = L.length ∧ expE L (fracE L (run 10 L)) = L.length := by
  unfold wholeL at h ⊢
  split at h
  · rename_i hf
    rw [if_pos hf]
    by_cases h1 : 0 < run (lett L) (L.drop 2)
    · exfalso
      unfold readL at h
      rw [if_pos h1] at h
      unfold lettL at h
      rw [if_pos h1] at h
      exact absurd h (by show ¬ 11 = 12; omega)
    · have e : readL L = decL L := by
        unfold readL
        rw [if_neg h1]
      rw [e] at hf h ⊢
      obtain ⟨k1, k2⟩ := decL_pos L (by omega)
      have hlt : run 10 L < expE L (fracE L (run 10 L)) := by
        rcases Nat.lt_or_ge (run 10 L) (expE L (fracE L (run 10 L))) with h2 | h2
        · exact h2
        · exfalso
          unfold decL at h
          rw [if_neg (by omega)] at h
          dsimp only at h
          rw [if_neg (by omega)] at h
          omega
      have ed : decL L = ⟨12, 10, 0, run 10 L, fracE L (run 10 L), expE L (fracE L (run 10 L))⟩ := by
        unfold decL
        rw [if_neg (by omega), if_pos hlt]
      rw [ed] at hf ⊢
      dsimp only at hf ⊢
      exact ⟨rfl, k1, by omega, rfl, rfl, hf, hf⟩
  · exact absurd h (by decide)

/-- The parts of a broken number. -/
theorem float_parts (L : List UInt8) (h : (wholeL L).kind = 12) :
    ∃ p m : Nat, (wholeL L).point = p ∧ (wholeL L).mant = m ∧ run 10 L = p ∧ 0 < p ∧ p < L.length ∧ m ≤ L.length ∧
      ((bt L p = 46 ∧ m = p + 1 + run 10 (L.drop (p + 1)) ∧ 0 < run 10 (L.drop (p + 1))) ∨ (bt L p ≠ 46 ∧ m = p)) ∧
      (m = L.length ∨ (m < L.length ∧ (bt L m = 101 ∨ bt L m = 69) ∧ 0 < run 10 (L.drop (expF L m)) ∧ expF L m + run 10 (L.drop (expF L m)) = L.length)) := by
  obtain ⟨-, k1, k2, k3, k4, -, k6⟩ := decL_float L h
  refine ⟨_, _, k3, k4, rfl, k1, k2, ?_, ?_, ?_⟩
  · have := expE_ge L (fracE L (run 10 L))
    omega
  · by_cases h46 : bt L (run 10 L) = 46
    · have ef : fracE L (run 10 L) = endOr L (run 10 L + 1) (run 10 L) := by unfold fracE; rw [if_pos h46]
      by_cases hr : 0 < run 10 (L.drop (run 10 L + 1))
      · refine .inl ⟨h46, ?_, hr⟩
        rw [ef]
        unfold endOr
        rw [if_pos hr]
      · exfalso
        have em : fracE L (run 10 L) = run 10 L := by
          rw [ef]
          unfold endOr
          rw [if_neg hr]
        rw [em] at k6
        unfold expE at k6
        rw [if_neg (by omega)] at k6
        omega
    · refine .inr ⟨h46, ?_⟩
      unfold fracE
      rw [if_neg h46]
  · generalize fracE L (run 10 L) = m at k6
    unfold expE at k6
    split at k6
    · rename_i he
      unfold endOr at k6
      split at k6
      · rename_i hr
        refine .inr ⟨bt_lt L m (by omega), he, hr, k6⟩
      · exact .inl k6
    · exact .inl k6

theorem expX_digits (L : List UInt8) (h : (wholeL L).kind = 12) (hm : (wholeL L).mant < L.length) : expX L ≠ [] ∧ (expX L).all (isD 10) = true := by
  obtain ⟨p, m, -, e2, -, -, -, -, -, h2⟩ := float_parts L h
  unfold expX
  rw [e2] at hm ⊢
  rcases h2 with h2 | ⟨-, -, h3, h4⟩
  · omega
  · have hd := run_allD 10 (L.drop (expF L m))
    rw [List.take_of_length_le (by rw [List.length_drop]; omega)] at hd
    refine ⟨?_, hd⟩
    intro h5
    rw [h5] at h3
    simp [run] at h3

/-- A broken number's digits ahead of and behind its point. -/
theorem frac_len (L : List UInt8) (h : (wholeL L).kind = 12) : (fracL L).length = (wholeL L).mant - (wholeL L).point - 1 ∧ (fracL L).length ≤ L.length := by
  obtain ⟨p, m, e1, e2, -, -, -, hm, -, -⟩ := float_parts L h
  unfold fracL
  rw [List.length_take, List.length_drop, e1, e2]
  omega
theorem all_len (L : List UInt8) : (allL L).length ≤ 2 * L.length := by
  unfold allL fracL
  rw [List.length_append, List.length_take, List.length_take, List.length_drop]
  omega
theorem bare_strip : ∀ (A : List UInt8), A ≠ [] → bareL A = if strip A = [] then [48] else strip A
  | [], h => absurd rfl h
  | [x], _ => by
    rw [bareL, strip_cons]
    by_cases h : x = 48
    · rw [if_pos h, if_pos (show strip [] = [] from rfl), h]
    · rw [if_neg h, if_neg (by simp)]
  | x :: y :: r, _ => by
    rw [bareL, strip_cons]
    by_cases h : x = 48
    · rw [if_pos h, if_pos h]
      exact bare_strip (y :: r) (by simp)
    · rw [if_neg h, if_neg h, if_neg (by simp)]
theorem short_bare (A : List UInt8) (h : A ≠ []) (t : Int) : shortS (bareL A) t = shortS A t := by
  rw [bare_strip A h]
  by_cases h0 : strip A = []
  · rw [if_pos h0]
    unfold shortS
    rw [if_pos h0]
    rfl
  · rw [if_neg h0, short_strip]
/-- Bare: one nought alone, or none ahead. -/
def Bare (A : List UInt8) : Prop := A = [48] ∨ (A ≠ [] ∧ strip A = A)
theorem bare_bare (A : List UInt8) (h : A ≠ []) : Bare (bareL A) := by
  rw [bare_strip A h]
  by_cases h0 : strip A = []
  · rw [if_pos h0]
    exact .inl rfl
  · rw [if_neg h0]
    exact .inr ⟨h0, strip_strip A⟩
theorem dec_bare (n : Nat) : Bare (decDigits n) := by
  obtain ⟨h1, h2, h3⟩ := dec_digits n
  have := bare_bare _ h2
  rwa [bare_dec _ h2 h1, h3] at this

theorem decS_digits (L : List UInt8) (h0 : L ≠ []) (h : L.all (isD 10) = true) (hl : L.length ≤ 1000) : decS L = (decDigits (valOf 10 0 L), 0) := by
  unfold decS
  rw [wholeL_digits L h0 h, if_pos rfl, if_neg (by omega)]
  rfl
theorem decS_none (L : List UInt8) (h : (wholeL L).kind = 12) : decS L = ([], 40) := by
  unfold decS
  rw [if_neg (by omega)]
/-- What decimal digits are worth. -/
theorem amS_digits (L : List UInt8) (h0 : L ≠ []) (h : L.all (isD 10) = true) (hl : L.length ≤ 1000) : amS L = ((shortS L 0).1, (shortS L 0).2, 0) := by
  unfold amS
  rw [decS_digits L h0 h hl, if_pos rfl]
  dsimp only
  rw [short_dec L h 0]
theorem short_ahead (L : List UInt8) (t : Int) : shortS (48 :: L) t = shortS L t := by
  unfold shortS
  rw [strip_cons, if_pos rfl]

theorem bt_app_at (L M : List UInt8) (k : Nat) : bt (L ++ M) (L.length + k) = bt M k := by
  unfold bt
  rw [List.getD_eq_getElem?_getD, List.getElem?_append_right (by omega), Nat.add_sub_cancel_left, ← List.getD_eq_getElem?_getD]
theorem lett_app (L M : List UInt8) (h0 : L ≠ []) (h : L.all (isD 10) = true) (hM : letter (bt M 0) = 0) : lett (L ++ M) = 0 := by
  unfold lett
  split
  · have hr := run_full 10 L h
    have hl : 0 < L.length := List.length_pos_iff.2 h0
    by_cases h1 : 1 < L.length
    · have : bt (L ++ M) 1 = bt L 1 := by
        unfold bt
        rw [List.getD_eq_getElem?_getD, List.getElem?_append_left h1, ← List.getD_eq_getElem?_getD]
      rw [this]
      exact letter_dig _ (bt_dig L 1 (by omega))
    · have e := bt_app_at L M 0
      rw [show L.length + 0 = 1 by omega] at e
      rw [e]
      exact hM
  · rfl
/-- Decimal digits, a point and noughts are a broken number that is worth as much. -/
theorem amS_point (L : List UInt8) (k : Nat) (h0 : L ≠ []) (h : L.all (isD 10) = true) (hk : 0 < k) (hl : L.length + 1 + k ≤ 1000) : amS (L ++ 46 :: List.replicate k 48) = ((shortS L 0).1, (shortS L 0).2, 0) := by
  have hp : 0 < L.length := List.length_pos_iff.2 h0
  have hz : (List.replicate k (48 : UInt8)).all (isD 10) = true := by
    rw [List.all_eq_true]
    intro x hx
    rw [List.mem_replicate] at hx
    rw [hx.2]
    decide
  have hlen : (L ++ 46 :: List.replicate k 48).length = L.length + 1 + k := by
    rw [List.length_append, List.length_cons, List.length_replicate]
    omega
  have h10 : run 10 (L ++ 46 :: List.replicate k 48) = L.length := by
    rw [run_app 10 L _ h, run, if_neg (by decide)]
    rfl
  have hd : (L ++ 46 :: List.replicate k 48).drop (L.length + 1) = List.replicate k 48 := by
    rw [List.drop_append, List.drop_of_length_le (by omega), show L.length + 1 - L.length = 1 by omega]
    rfl
  have h46 : bt (L ++ 46 :: List.replicate k 48) L.length = 46 := bt_app_at L _ 0
  have hf : fracE (L ++ 46 :: List.replicate k 48) L.length = L.length + 1 + k := by
    unfold fracE endOr
    rw [if_pos h46, hd, run_full 10 _ hz, List.length_replicate, if_pos hk]
  have he : expE (L ++ 46 :: List.replicate k 48) (L.length + 1 + k) = L.length + 1 + k := by
    unfold expE
    rw [bt_out _ _ (by omega), if_neg (by omega)]
  have hr : readL (L ++ 46 :: List.replicate k 48) = ⟨12, 10, 0, L.length, L.length + 1 + k, L.length + 1 + k⟩ := by
    unfold readL decL
    rw [lett_app L _ h0 h (by rfl), run_small 0 (by omega), if_neg (by omega), h10, if_neg (by omega), hf, he, if_pos (by omega)]
  have hw : wholeL (L ++ 46 :: List.replicate k 48) = ⟨12, 10, 0, L.length, L.length + 1 + k, L.length + 1 + k⟩ := by
    unfold wholeL
    rw [hr, if_pos hlen.symm]
  have hfr : fracL (L ++ 46 :: List.replicate k 48) = List.replicate k 48 := by
    unfold fracL
    rw [hw]
    dsimp only
    rw [hd, List.take_of_length_le (by rw [List.length_replicate]; omega)]
  have hal : allL (L ++ 46 :: List.replicate k 48) = L ++ List.replicate k 48 := by
    unfold allL
    rw [hfr, hw]
    dsimp only
    rw [List.take_append_of_le_length (Nat.le_refl _), List.take_length]
  have hev : expV (L ++ 46 :: List.replicate k 48) = 0 := by
    unfold expV
    rw [hw]
    dsimp only
    rw [hlen, if_neg (by omega)]
  have hei : expI (L ++ 46 :: List.replicate k 48) = 0 := by
    unfold expI
    rw [hev]
    split <;> rfl
  unfold amS
  rw [decS_none _ (by rw [hw]), if_neg (by decide)]
  unfold floatS
  rw [if_pos (by rw [hw]), hlen, hev, if_neg (by omega), hal, hei, hfr, List.length_replicate, short_nought, show (0 : Int) - (k : Int) + (k : Int) = 0 by omega]
/-- .. with an exponent of 0. -/
theorem amS_exp (L : List UInt8) (h0 : L ≠ []) (h : L.all (isD 10) = true) (hl : L.length + 2 ≤ 1000) : amS (L ++ [101, 48]) = ((shortS L 0).1, (shortS L 0).2, 0) := by
  have hp : 0 < L.length := List.length_pos_iff.2 h0
  have hlen : (L ++ [101, 48]).length = L.length + 2 := by
    rw [List.length_append]
    rfl
  have h10 : run 10 (L ++ [101, 48]) = L.length := by
    rw [run_app 10 L _ h, run, if_neg (by decide)]
    rfl
  have hd : (L ++ [101, 48]).drop (L.length + 1) = [48] := by
    rw [List.drop_append, List.drop_of_length_le (by omega), show L.length + 1 - L.length = 1 by omega]
    rfl
  have b0 : bt (L ++ [101, 48]) L.length = 101 := bt_app_at L _ 0
  have b1 : bt (L ++ [101, 48]) (L.length + 1) = 48 := bt_app_at L _ 1
  have hf : fracE (L ++ [101, 48]) L.length = L.length := by
    unfold fracE
    rw [b0, if_neg (by omega)]
  have hx : expF (L ++ [101, 48]) L.length = L.length + 1 := by
    unfold expF
    rw [b1, if_neg (by omega)]
  have h48 : run 10 [48] = 1 := by decide
  have he : expE (L ++ [101, 48]) L.length = L.length + 2 := by
    unfold expE endOr
    rw [b0, if_pos (by omega), hx, hd, h48, if_pos (by omega)]
  have hr : readL (L ++ [101, 48]) = ⟨12, 10, 0, L.length, L.length, L.length + 2⟩ := by
    unfold readL decL
    rw [lett_app L _ h0 h (by rfl), run_small 0 (by omega), if_neg (by omega), h10, if_neg (by omega), hf, he, if_pos (by omega)]
  have hw : wholeL (L ++ [101, 48]) = ⟨12, 10, 0, L.length, L.length, L.length + 2⟩ := by
    unfold wholeL
    rw [hr, if_pos hlen.symm]
  have hfr : fracL (L ++ [101, 48]) = [] := by
    unfold fracL
    rw [hw]
    dsimp only
    rw [show L.length - L.length - 1 = 0 by omega, List.take_zero]
  have hal : allL (L ++ [101, 48]) = L := by
    unfold allL
    rw [hfr, hw, List.append_nil]
    dsimp only
    rw [List.take_append_of_le_length (Nat.le_refl _), List.take_length]
  have hev : expV (L ++ [101, 48]) = 0 := by
    unfold expV expX
    rw [hw]
    dsimp only
    rw [hx, hd, hlen, if_pos (by omega)]
    decide
  have hei : expI (L ++ [101, 48]) = 0 := by
    unfold expI
    rw [hev]
    split <;> rfl
  unfold amS
  rw [decS_none _ (by rw [hw]), if_neg (by decide)]
  unfold floatS
  rw [if_pos (by rw [hw]), hlen, hev, if_neg (by omega), hal, hei, hfr]
  rfl
theorem sameS_of {A B : List UInt8} {x : List UInt8} {t : Int} (h1 : amS A = (x, t, 0)) (h2 : amS B = (x, t, 0)) : sameS A B = true := by
  unfold sameS
  rw [h1, h2]
  exact decide_eq_true ⟨rfl, rfl, rfl, rfl⟩
theorem valOf_lt (b : Nat) : ∀ (X : List UInt8) (v : Nat), X.all (isD b) = true → valOf b v X < (v + 1) * b ^ X.length
  | [], v, _ => by
    rw [valOf, List.length_nil, Nat.pow_zero]
    omega
  | x :: X, v, h => by
    rw [List.all_cons, Bool.and_eq_true] at h
    have ih := valOf_lt b X (v * b + (dg b x).toNat) h.2
    have hd : 0 ≤ dg b x := of_decide_eq_true h.1
    have hb := (dg_bd b x).2.2 hd
    have h1 : v * b + (dg b x).toNat + 1 ≤ (v + 1) * b := by
      rw [Nat.add_mul]
      omega
    have h2 := Nat.mul_le_mul_right (b ^ X.length) h1
    rw [valOf, List.length_cons, Nat.pow_succ, Nat.mul_comm (b ^ X.length) b, ← Nat.mul_assoc]
    omega
theorem decS_len (L : List UInt8) : (decS L).1.length ≤ 4000 := by
  unfold decS
  split
  · rename_i h
    split
    · exact Nat.zero_le _
    · rename_i hl
      obtain ⟨h1, h2, h3, h4, -⟩ := whole_int L h
      have hlen : (L.drop (wholeL L).beg).length ≤ 1000 := by rw [List.length_drop]; omega
      generalize L.drop (wholeL L).beg = X at h4 hlen
      generalize (wholeL L).base = b at h1 h4
      have hv := valOf_lt b X 0 h4
      rw [Nat.zero_add, Nat.one_mul] at hv
      have h5 : b ^ X.length ≤ (10 ^ 2) ^ X.length := Nat.pow_le_pow_left (by omega) _
      rw [← Nat.pow_mul] at h5
      have h6 : 10 ^ (2 * X.length) ≤ 10 ^ (2 * X.length + 1) := Nat.pow_le_pow_right (by omega) (by omega)
      have := (pad_eq (2 * X.length + 1) (valOf b 0 X) (by omega) (Nat.lt_of_lt_of_le hv (Nat.le_trans h5 h6))).2
      show (decDigits (valOf b 0 X)).length ≤ 4000
      omega
  · exact Nat.zero_le _
end Go.Proofs.YtiifjegjmhbhkaaDoor.Num
