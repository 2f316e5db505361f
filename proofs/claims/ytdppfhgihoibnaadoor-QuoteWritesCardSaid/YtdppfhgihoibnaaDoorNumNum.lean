/-
  Numbers as limbs and as decimal digits: what a row of limbs is worth, how it is multiplied, its text; noughts ahead and behind. No program is run here.
-/
import Derived.Test.YtdppfhgihoibnaaDoorNumMath
import Derived.Lib.ItoaNum
namespace Go.Proofs.YtdppfhgihoibnaaDoor.Num
open Go.Lib Gly

theorem dig_byte (d : Nat) (h : d < 10) : isD 10 (UInt8.ofNat (48 + d)) = true ∧ (dg 10 (UInt8.ofNat (48 + d))).toNat = d := by
  have e : (UInt8.ofNat (48 + d)).toNat = 48 + d := by
    rw [UInt8.toNat_ofNat']
    omega
  have h1 : isD 10 (UInt8.ofNat (48 + d)) = true := by rw [isD_ten]; exact decide_eq_true (by omega)
  refine ⟨h1, ?_⟩
  have := (dg_ten' _ h1).1
  omega
theorem byte_dig (x : UInt8) (h : isD 10 x = true) : UInt8.ofNat (48 + (dg 10 x).toNat) = x ∧ (dg 10 x).toNat < 10 := by
  obtain ⟨h1, h2, h3⟩ := dg_ten' x h
  refine ⟨?_, by omega⟩
  have e : 48 + (dg 10 x).toNat = x.toNat := by omega
  rw [e]
  apply UInt8.toNat_inj.1
  rw [UInt8.toNat_ofNat']
  have := x.toNat_lt
  omega
theorem dec_one (d : Nat) (h : d < 10) : decDigits d = [UInt8.ofNat (48 + d)] := decDigits_one h
theorem dec_more (v d : Nat) (hv : 0 < v) (h : d < 10) : decDigits (v * 10 + d) = decDigits v ++ [UInt8.ofNat (48 + d)] := by
  rw [decDigits, dif_neg (by omega), show (v * 10 + d) / 10 = v by omega, show (v * 10 + d) % 10 = d by omega]

/-- A number's decimal digits are digits that are worth it. -/
theorem dec_digits (n : Nat) : (decDigits n).all (isD 10) = true ∧ decDigits n ≠ [] ∧ valOf 10 0 (decDigits n) = n := by
  induction n using Nat.strongRecOn with
  | _ n ih =>
    by_cases h : n < 10
    · rw [dec_one n h]
      obtain ⟨h1, h2⟩ := dig_byte n h
      refine ⟨by rw [List.all_cons, h1]; rfl, by simp, ?_⟩
      rw [valOf, h2, valOf]
      omega
    · have e : n = n / 10 * 10 + n % 10 := by omega
      obtain ⟨i1, i2, i3⟩ := ih (n / 10) (by omega)
      obtain ⟨h1, h2⟩ := dig_byte (n % 10) (by omega)
      have hd := dec_more (n / 10) (n % 10) (by omega) (by omega)
      rw [← e] at hd
      rw [hd]
      refine ⟨by rw [List.all_append, i1, List.all_cons, h1]; rfl, by simp, ?_⟩
      rw [valOf_app, i3, valOf, h2, valOf]
      omega
theorem dec_val (L : List UInt8) : ∀ (v : Nat), 0 < v → L.all (isD 10) = true → decDigits (valOf 10 v L) = decDigits v ++ L := by
  induction L with
  | nil => intro v _ _; rw [valOf, List.append_nil]
  | cons x L ih =>
    intro v hv h
    rw [List.all_cons, Bool.and_eq_true] at h
    obtain ⟨h1, h2⟩ := byte_dig x h.1
    rw [valOf, ih _ (by omega) h.2, dec_more v _ hv h2, h1, List.append_assoc]
    rfl
theorem dec_lead (x : UInt8) (L : List UInt8) (h : (x :: L).all (isD 10) = true) (h0 : x ≠ 48) : decDigits (valOf 10 0 (x :: L)) = x :: L := by
  rw [List.all_cons, Bool.and_eq_true] at h
  obtain ⟨h1, h2⟩ := byte_dig x h.1
  have hp : 0 < (dg 10 x).toNat := by
    rcases Nat.eq_zero_or_pos (dg 10 x).toNat with h3 | h3
    · exfalso
      rw [h3] at h1
      exact h0 h1.symm
    · exact h3
  rw [valOf, dec_val L _ (by omega) h.2, Nat.zero_mul, Nat.zero_add, dec_one _ h2, h1]
  rfl
theorem val_nought (L : List UInt8) : valOf 10 0 (48 :: L) = valOf 10 0 L := by
  rw [valOf]
  rfl

/-- Digits without noughts ahead, but for the last one. -/
def bareL : List UInt8 → List UInt8
  | [] => []
  | [x] => [x]
  | x :: y :: r => if x = 48 then bareL (y :: r) else x :: y :: r
theorem bare_dec : ∀ (L : List UInt8), L ≠ [] → L.all (isD 10) = true → bareL L = decDigits (valOf 10 0 L)
  | [], h, _ => absurd rfl h
  | [x], _, h => by
    by_cases h0 : x = 48
    · subst h0
      rw [val_nought, valOf, dec_one 0 (by omega)]
      rfl
    · rw [dec_lead x [] h h0]
      rfl
  | x :: y :: r, _, h => by
    rw [bareL]
    split
    · rename_i h0
      subst h0
      rw [val_nought]
      rw [List.all_cons, Bool.and_eq_true] at h
      exact bare_dec (y :: r) (by simp) h.2
    · rename_i h0
      exact (dec_lead x (y :: r) h h0).symm
/-- Digits without noughts ahead. -/
def strip (L : List UInt8) : List UInt8 := L.dropWhile (· == 48)
theorem strip_cons (x : UInt8) (L : List UInt8) : strip (x :: L) = if x = 48 then strip L else x :: L := by
  unfold strip
  rw [List.dropWhile_cons]
  by_cases h : x = 48
  · rw [if_pos h, if_pos (by rw [h]; rfl)]
  · rw [if_neg h, if_neg (by simpa using h)]
theorem strip_dec : ∀ (L : List UInt8), L.all (isD 10) = true → strip L = if valOf 10 0 L = 0 then [] else decDigits (valOf 10 0 L)
  | [], _ => rfl
  | x :: L, h => by
    rw [strip_cons]
    split
    · rename_i h0
      subst h0
      rw [val_nought]
      rw [List.all_cons, Bool.and_eq_true] at h
      exact strip_dec L h.2
    · rename_i h0
      have h2 := dec_lead x L h h0
      rw [if_neg, h2]
      intro h3
      rw [h3, dec_one 0 (by omega)] at h2
      injection h2 with h4
      exact h0 h4.symm
theorem strip_strip (L : List UInt8) : strip (strip L) = strip L := by
  induction L with
  | nil => rfl
  | cons x L ih =>
    by_cases h : x = 48
    · rw [strip_cons, if_pos h]
      exact ih
    · rw [strip_cons, if_neg h, strip_cons, if_neg h]
theorem strip_app_nought (L : List UInt8) (k : Nat) : strip (L ++ List.replicate k 48) = if strip L = [] then [] else strip L ++ List.replicate k 48 := by
  induction L with
  | nil =>
    rw [List.nil_append]
    induction k with
    | zero => rfl
    | succ k ih =>
      rw [List.replicate_succ, strip_cons, if_pos rfl]
      exact ih
  | cons x L ih =>
    rw [List.cons_append, strip_cons, strip_cons]
    by_cases h : x = 48
    · rw [if_pos h, if_pos h]
      exact ih
    · rw [if_neg h, if_neg h, if_neg (by simp)]
      rfl
theorem strip_len (L : List UInt8) : (strip L).length ≤ L.length := by
  induction L with
  | nil => exact Nat.le_refl _
  | cons x L ih =>
    rw [strip_cons]
    split
    · rw [List.length_cons]; omega
    · exact Nat.le_refl _
/-- .. and behind. -/
def rstrip (L : List UInt8) : List UInt8 := (strip L.reverse).reverse
theorem rstrip_len (L : List UInt8) : (rstrip L).length ≤ L.length := by
  unfold rstrip
  have := strip_len L.reverse
  rw [List.length_reverse] at this
  rw [List.length_reverse]
  exact this
theorem strip_all (k : Nat) (L : List UInt8) : strip (List.replicate k 48 ++ L) = strip L := by
  induction k with
  | zero => rfl
  | succ k ih =>
    rw [List.replicate_succ, List.cons_append, strip_cons, if_pos rfl]
    exact ih
theorem rstrip_app_nought (L : List UInt8) (k : Nat) : rstrip (L ++ List.replicate k 48) = rstrip L := by
  unfold rstrip
  rw [List.reverse_append, List.reverse_replicate, strip_all]

/-- Digits and tens, without noughts at either end. -/
def shortS (L : List UInt8) (t : Int) : List UInt8 × Int :=
  if strip L = [] then ([48], 0) else (rstrip (strip L), t + ((strip L).length : Int) - ((rstrip (strip L)).length : Int))
theorem short_nought (L : List UInt8) (k : Nat) (t : Int) : shortS (L ++ List.replicate k 48) t = shortS L (t + (k : Int)) := by
  unfold shortS
  rw [strip_app_nought]
  by_cases h : strip L = []
  · rw [if_pos h, if_pos rfl, if_pos h]
  · rw [if_neg h, if_neg (by simp [h]), if_neg h, rstrip_app_nought, List.length_append, List.length_replicate]
    congr 1
    omega
theorem short_strip (L : List UInt8) (t : Int) : shortS (strip L) t = shortS L t := by
  unfold shortS
  rw [strip_strip]
theorem short_dec (L : List UInt8) (h : L.all (isD 10) = true) (t : Int) : shortS (decDigits (valOf 10 0 L)) t = shortS L t := by
  by_cases h0 : valOf 10 0 L = 0
  · have h1 := strip_dec L h
    rw [if_pos h0] at h1
    unfold shortS
    rw [h1, h0, dec_one 0 (by omega)]
    rfl
  · have h1 := strip_dec L h
    rw [if_neg h0] at h1
    rw [← h1, short_strip]

/-- What limbs are worth, the lowest first; a row of them times a base and a digit more. -/
def lv : List Nat → Nat
  | [] => 0
  | x :: r => x + 1000000000 * lv r
def ma (b : Nat) : Nat → List Nat → List Nat
  | c, [] => if c = 0 then [] else [c]
  | c, x :: r => (x * b + c) % 1000000000 :: ma b ((x * b + c) / 1000000000) r
theorem lv_ma (b : Nat) : ∀ (xs : List Nat) (c : Nat), lv (ma b c xs) = lv xs * b + c
  | [], c => by
    rw [ma]
    split
    · rename_i h
      rw [h]
      simp [lv]
    · simp [lv]
  | x :: r, c => by
    rw [ma, lv, lv_ma b r, lv, Nat.add_mul, Nat.mul_add, Nat.mul_assoc]
    omega
def okL (xs : List Nat) : Prop := (∀ x ∈ xs, x < 1000000000) ∧ xs.getLast? ≠ some 0
theorem carry_small (x b c : Nat) (hx : x < 1000000000) (hb : b ≤ 16) (hc : c ≤ 15) : x * b + c ≤ 15999999999 ∧ (x * b + c) / 1000000000 ≤ 15 := by
  have h1 : x * b ≤ 999999999 * 16 := Nat.mul_le_mul (by omega) hb
  omega
theorem ma_ok (b : Nat) (hb : 1 ≤ b) (hb2 : b ≤ 16) : ∀ (xs : List Nat) (c : Nat), c ≤ 15 → okL xs → okL (ma b c xs)
  | [], c, hc, _ => by
    rw [ma]
    split
    · exact ⟨by simp, by simp⟩
    · rename_i h
      exact ⟨by simp; omega, by simpa using h⟩
  | x :: r, c, hc, h => by
    have hx := h.1 x (by simp)
    obtain ⟨k1, k2⟩ := carry_small x b c hx hb2 hc
    have hr : okL r := ⟨fun y hy => h.1 y (by simp [hy]), by
      have h2 := h.2
      cases r with
      | nil => simp
      | cons y r =>
        rw [List.getLast?_cons_cons] at h2
        exact h2⟩
    have ih := ma_ok b hb hb2 r _ k2 hr
    rw [ma]
    refine ⟨?_, ?_⟩
    · intro y hy
      rcases List.mem_cons.1 hy with rfl | hy
      · exact Nat.mod_lt _ (by omega)
      · exact ih.1 y hy
    · cases hm : ma b ((x * b + c) / 1000000000) r with
      | nil =>
        rw [List.getLast?_singleton]
        intro h0
        have h0 := Option.some.inj h0
        cases r with
        | nil =>
          rw [ma] at hm
          by_cases h3 : (x * b + c) / 1000000000 = 0
          · have hxp : 0 < x := by
              rcases Nat.eq_zero_or_pos x with h4 | h4
              · exfalso
                subst h4
                exact h.2 rfl
              · exact h4
            have : 1 * 1 ≤ x * b := Nat.mul_le_mul hxp hb
            omega
          · rw [if_neg h3] at hm
            exact absurd hm (by simp)
        | cons y r =>
          rw [ma] at hm
          exact absurd hm (by simp)
      | cons y q =>
        rw [List.getLast?_cons_cons, ← hm]
        exact ih.2
theorem ma_len (b : Nat) : ∀ (xs : List Nat) (c : Nat), (ma b c xs).length ≤ xs.length + 1
  | [], c => by
    rw [ma]
    split <;> simp
  | x :: r, c => by
    have := ma_len b r ((x * b + c) / 1000000000)
    rw [ma, List.length_cons, List.length_cons]
    omega

/-- Nine digits of a limb. -/
def padk : Nat → Nat → List UInt8
  | 0, _ => []
  | k + 1, r => padk k (r / 10) ++ [UInt8.ofNat (48 + r % 10)]
theorem padk_zero : ∀ k, padk k 0 = List.replicate k 48
  | 0 => rfl
  | k + 1 => by
    rw [padk, Nat.zero_div, padk_zero k, List.replicate_succ']
    rfl
theorem pad_eq : ∀ (k r : Nat), 1 ≤ k → r < 10 ^ k → List.replicate (k - (decDigits r).length) 48 ++ decDigits r = padk k r ∧ (decDigits r).length ≤ k
  | 0, _, h, _ => by omega
  | k + 1, r, _, hr => by
    by_cases h : r < 10
    · rw [dec_one r h, padk, Nat.div_eq_of_lt h, padk_zero, Nat.mod_eq_of_lt h]
      exact ⟨rfl, by simp⟩
    · cases k with
      | zero => omega
      | succ k =>
        have hr2 : r / 10 < 10 ^ (k + 1) := by
          rw [Nat.pow_succ] at hr
          exact Nat.div_lt_of_lt_mul (by omega)
        obtain ⟨i1, i2⟩ := pad_eq (k + 1) (r / 10) (by omega) hr2
        have e : r = r / 10 * 10 + r % 10 := by omega
        have hd := dec_more (r / 10) (r % 10) (by omega) (by omega)
        rw [← e] at hd
        rw [hd, List.length_append, List.length_singleton, padk, ← i1, List.append_assoc]
        refine ⟨?_, by omega⟩
        rw [show k + 1 + 1 - ((decDigits (r / 10)).length + 1) = k + 1 - (decDigits (r / 10)).length by omega]
theorem dec_padk : ∀ (k q r : Nat), 0 < q → r < 10 ^ k → decDigits (q * 10 ^ k + r) = decDigits q ++ padk k r
  | 0, q, r, _, hr => by
    obtain rfl : r = 0 := by simpa using hr
    simp [padk]
  | k + 1, q, r, hq, hr => by
    have hr2 : r / 10 < 10 ^ k := by
      rw [Nat.pow_succ] at hr
      exact Nat.div_lt_of_lt_mul (by omega)
    have ih := dec_padk k q (r / 10) hq hr2
    have hp : 0 < q * 10 ^ k := Nat.mul_pos hq (Nat.pow_pos (by omega))
    have e : q * 10 ^ (k + 1) + r = (q * 10 ^ k + r / 10) * 10 + r % 10 := by
      rw [Nat.pow_succ, ← Nat.mul_assoc]
      omega
    rw [e, dec_more _ _ (by omega) (by omega), ih, padk, List.append_assoc]
def pad9 (x : Nat) : List UInt8 := List.replicate (9 - (decDigits x).length) 48 ++ decDigits x
theorem dec_pad9 (q r : Nat) (hq : 0 < q) (hr : r < 1000000000) : decDigits (q * 1000000000 + r) = decDigits q ++ pad9 r := by
  have := dec_padk 9 q r hq hr
  rw [← (pad_eq 9 r (by omega) hr).1] at this
  exact this
theorem pad9_len (r : Nat) (hr : r < 1000000000) : (pad9 r).length = 9 ∧ (decDigits r).length ≤ 9 := by
  have := (pad_eq 9 r (by omega) hr).2
  unfold pad9
  rw [List.length_append, List.length_replicate]
  omega
/-- The text of limbs, the highest first. -/
def tail9 : List Nat → List UInt8
  | [] => []
  | x :: r => pad9 x ++ tail9 r
theorem tail9_len : ∀ (r : List Nat), (∀ x ∈ r, x < 1000000000) → (tail9 r).length = 9 * r.length
  | [], _ => rfl
  | x :: r, h => by
    have := tail9_len r (fun y hy => h y (by simp [hy]))
    have := (pad9_len x (h x (by simp))).1
    rw [tail9, List.length_append, List.length_cons]
    omega
theorem dec_tail9 : ∀ (r : List Nat) (q : Nat), 0 < q → (∀ x ∈ r, x < 1000000000) → decDigits q ++ tail9 r = decDigits (r.foldl (fun a x => a * 1000000000 + x) q)
  | [], q, _, _ => by rw [tail9, List.append_nil]; rfl
  | x :: r, q, hq, h => by
    have ih := dec_tail9 r (q * 1000000000 + x) (by omega) (fun y hy => h y (by simp [hy]))
    rw [tail9, ← List.append_assoc, ← dec_pad9 q x hq (h x (by simp)), ih]
    rfl
theorem lv_fold : ∀ (xs : List Nat) (a : Nat), xs.reverse.foldl (fun a x => a * 1000000000 + x) a = a * 1000000000 ^ xs.length + lv xs
  | [], a => by simp [lv]
  | x :: r, a => by
    rw [List.reverse_cons, List.foldl_append, lv_fold r a, List.foldl_cons, List.foldl_nil, lv, List.length_cons, Nat.pow_succ, Nat.add_mul, ← Nat.mul_assoc]
    omega
/-- text's answer. -/
def textL (xs : List Nat) : List UInt8 :=
  match xs.reverse with
  | [] => [48]
  | h :: t => decDigits h ++ tail9 t
theorem text_dec (xs : List Nat) (h : okL xs) : textL xs = decDigits (lv xs) := by
  have hf := lv_fold xs 0
  rw [Nat.zero_mul, Nat.zero_add] at hf
  unfold textL
  cases hr : xs.reverse with
  | nil =>
    rw [List.reverse_eq_nil_iff] at hr
    rw [hr, lv, dec_one 0 (by omega)]
    rfl
  | cons y t =>
    rw [hr, List.foldl_cons, Nat.zero_mul, Nat.zero_add] at hf
    have hm : ∀ z, z ∈ y :: t → z < 1000000000 := fun z hz => h.1 z (by rw [← hr, List.mem_reverse] at hz; exact hz)
    have hy : 0 < y := by
      rcases Nat.eq_zero_or_pos y with h0 | h0
      · exfalso
        apply h.2
        rw [← List.head?_reverse, hr, List.head?_cons, h0]
      · exact h0
    dsimp only
    rw [dec_tail9 t y hy (fun z hz => hm z (by simp [hz])), hf]

/-- The same for digits of the base 10. -/
def lowd (c : Nat) : List Nat := if h : c = 0 then [] else c % 10 :: lowd (c / 10)
termination_by c
decreasing_by omega
theorem lowd_zero : lowd 0 = [] := by rw [lowd, dif_pos rfl]
theorem lowd_pos (c : Nat) (h : 0 < c) : lowd c = c % 10 :: lowd (c / 10) := by rw [lowd, dif_neg (by omega)]
def dv : List Nat → Nat
  | [] => 0
  | x :: r => x + 10 * dv r
def mt (b : Nat) : Nat → List Nat → List Nat
  | c, [] => lowd c
  | c, x :: r => (c + x * b) % 10 :: mt b ((c + x * b) / 10) r
theorem dv_lowd (c : Nat) : dv (lowd c) = c := by
  induction c using Nat.strongRecOn with
  | _ c ih =>
    rcases Nat.eq_zero_or_pos c with h | h
    · rw [h, lowd_zero]
      rfl
    · rw [lowd_pos c h, dv, ih _ (by omega)]
      omega
theorem dv_mt (b : Nat) : ∀ (xs : List Nat) (c : Nat), dv (mt b c xs) = dv xs * b + c
  | [], c => by rw [mt, dv_lowd, dv, Nat.zero_mul, Nat.zero_add]
  | x :: r, c => by
    rw [mt, dv, dv_mt b r, dv, Nat.add_mul, Nat.mul_add, Nat.mul_assoc]
    omega
theorem lowd_small (c : Nat) : (∀ x ∈ lowd c, x < 10) ∧ (c ≤ 99 → (lowd c).length ≤ 2) := by
  constructor
  · induction c using Nat.strongRecOn with
    | _ c ih =>
      rcases Nat.eq_zero_or_pos c with h | h
      · rw [h, lowd_zero]
        simp
      · rw [lowd_pos c h]
        intro x hx
        rcases List.mem_cons.1 hx with rfl | hx
        · omega
        · exact ih _ (by omega) x hx
  · intro hc
    rcases Nat.eq_zero_or_pos c with h | h
    · rw [h, lowd_zero]
      simp
    · rw [lowd_pos c h]
      rcases Nat.eq_zero_or_pos (c / 10) with h1 | h1
      · rw [h1, lowd_zero]
        simp
      · rw [lowd_pos _ h1, show c / 10 / 10 = 0 by omega, lowd_zero]
        simp
theorem mt_small (b : Nat) (hb : b ≤ 16) : ∀ (xs : List Nat) (c : Nat), c ≤ 15 → (∀ x ∈ xs, x < 10) → (∀ x ∈ mt b c xs, x < 10) ∧ (mt b c xs).length ≤ xs.length + 2
  | [], c, hc, _ => by
    rw [mt]
    have := (lowd_small c).2 (by omega)
    exact ⟨(lowd_small c).1, by simpa using this⟩
  | x :: r, c, hc, h => by
    have hx := h x (by simp)
    have h1 : x * b ≤ 9 * 16 := Nat.mul_le_mul (by omega) hb
    obtain ⟨i1, i2⟩ := mt_small b hb r ((c + x * b) / 10) (by omega) (fun y hy => h y (by simp [hy]))
    rw [mt]
    refine ⟨?_, by rw [List.length_cons, List.length_cons]; omega⟩
    intro y hy
    rcases List.mem_cons.1 hy with rfl | hy
    · omega
    · exact i1 y hy
/-- Digits, the lowest first, as bytes, the highest first. -/
def highs (ds : List Nat) : List UInt8 := (ds.map fun d => UInt8.ofNat (48 + d)).reverse
theorem highs_val : ∀ (ds : List Nat), (∀ x ∈ ds, x < 10) → (highs ds).all (isD 10) = true ∧ valOf 10 0 (highs ds) = dv ds
  | [], _ => ⟨rfl, rfl⟩
  | x :: r, h => by
    obtain ⟨i1, i2⟩ := highs_val r (fun y hy => h y (by simp [hy]))
    obtain ⟨h1, h2⟩ := dig_byte x (h x (by simp))
    have e : highs (x :: r) = highs r ++ [UInt8.ofNat (48 + x)] := by
      unfold highs
      rw [List.map_cons, List.reverse_cons]
    rw [e]
    refine ⟨by rw [List.all_append, i1, List.all_cons, h1]; rfl, ?_⟩
    rw [valOf_app, i2, valOf, h2, valOf, dv]
    omega
end Go.Proofs.YtdppfhgihoibnaaDoor.Num
