/-
  Character and string literals as rows of bytes: which escape follows a backslash, which piece a row begins with, how a literal is read; that a piece hangs on its own bytes and on the byte behind it alone. No program is run here.
-/
import Derived.Test.YtdppfhgihoibnaaDoorWrdMath
import Derived.Test.YtdppfhgihoibnaaDoorNumMath
namespace Go.Proofs.YtdppfhgihoibnaaDoor.Qt
open Go.Lib Gly
open Wrd (rn wd)

/-- The first byte of a row; 256: there is none. -/
def hd : List UInt8 → Nat
  | [] => 256
  | x :: _ => x.toNat
theorem hd_lt (L : List UInt8) (h : hd L ≠ 256) : ∃ x t, L = x :: t ∧ hd L = x.toNat := by
  cases L with
  | nil => exact absurd rfl h
  | cons x t => exact ⟨x, t, rfl, rfl⟩
theorem hd_cons (L : List UInt8) (n : Nat) (h : hd L = n) (hn : n < 256) : ∃ x t, L = x :: t ∧ x.toNat = n := by
  obtain ⟨x, t, e, hx⟩ := hd_lt L (by omega)
  exact ⟨x, t, e, by omega⟩
theorem hd_same {L M : List UInt8} (h : hd L = hd M) : (L = [] ∧ M = []) ∨ ∃ x t u, L = x :: t ∧ M = x :: u := by
  cases L with
  | nil =>
    cases M with
    | nil => exact .inl ⟨rfl, rfl⟩
    | cons y u =>
      have := y.toNat_lt
      simp only [hd] at h
      omega
  | cons x t =>
    cases M with
    | nil =>
      have := x.toNat_lt
      simp only [hd] at h
      omega
    | cons y u =>
      simp only [hd] at h
      obtain rfl := UInt8.toNat_inj.1 h
      exact .inr ⟨x, t, u, rfl, rfl⟩
theorem hd_app (L M : List UInt8) (h : L ≠ []) : hd (L ++ M) = hd L := by
  cases L with
  | nil => exact absurd rfl h
  | cons x t => rfl
theorem hd_take (L : List UInt8) (n : Nat) (h : n ≠ 0) : hd (L.take n) = hd L := by
  cases L with
  | nil => simp
  | cons x t =>
    cases n with
    | zero => exact absurd rfl h
    | succ n => rfl
/-- A row whose first bytes are another's, then something that begins as what follows there: at each place before the end the first byte is the same. -/
theorem hd_at (L R : List UInt8) (k i : Nat) (hk : k ≤ L.length) (hi : i ≤ k) (hr : hd R = hd (L.drop k)) : hd ((L.take k ++ R).drop i) = hd (L.drop i) := by
  rw [List.drop_append_of_le_length (by rw [List.length_take]; omega), List.drop_take]
  rcases Nat.eq_or_lt_of_le hi with rfl | h
  · rw [Nat.sub_self, List.take_zero, List.nil_append, hr]
  · have hne : (L.drop i).take (k - i) ≠ [] := by
      intro e
      have := congrArg List.length e
      rw [List.length_take, List.length_drop] at this
      simp at this
      omega
    rw [hd_app _ _ hne, hd_take _ _ (by omega)]

/-- Runes that are blank. -/
def blkP (c : Int) : Bool := classI c == 1
theorem blk_bad : blkP 65533 = false := by decide +kernel
theorem blk_slash : blkP 92 = false := by decide +kernel
theorem blk_space : blkP 32 = true := by decide +kernel
theorem blk_is (c : Int) : blkP c = blankB c := by
  unfold blkP classI
  cases blankB c with
  | true => rfl
  | false =>
    rw [if_neg (by decide)]
    repeat' split
    all_goals rfl
theorem blk_small (c : Int) (h : blkP c = true) : (9 ≤ c ∧ c ≤ 13) ∨ c = 32 := by
  rw [blk_is] at h
  unfold blankB wthn at h
  simp at h
  omega
theorem rn_ascii (b : UInt8) (t : List UInt8) (h : b.toNat < 128) : rn (b :: t) = ((b.toNat : Nat) : Int) ∧ wd (b :: t) = 1 := by
  unfold rn wd
  rw [decodeL_N, show (b :: t).getD 0 0 = b from rfl, decodeN_ascii _ _ _ _ _ h]
  exact ⟨rfl, rfl⟩
theorem ascii_rn (L : List UInt8) (h : rn L < 128) : wd L = 1 ∧ ((L.getD 0 0).toNat : Int) = rn L := by
  unfold rn wd at *
  rw [decodeL_N] at *
  rcases decodeN_shape L.length (L.getD 0 0).toNat (L.getD 1 0).toNat (L.getD 2 0).toNat (L.getD 3 0).toNat with ⟨c, e⟩ | ⟨p1, p2, p3, cv, e⟩ | ⟨p1, p2, p3, p4, cv, cs, e⟩ | ⟨p1, p2, p3, p4, p5, cv, cw, e⟩ | e
  all_goals rw [e] at h ⊢
  all_goals dsimp only at h ⊢
  · exact ⟨rfl, rfl⟩
  all_goals (exfalso; omega)
/-- The bytes of a rune of more than one byte are 128 and more. -/
theorem rn_wide (L : List UInt8) (h : 128 ≤ rn L) (hne : decodeL L ≠ (65533, 1)) : ∀ x ∈ L.take (wd L), 128 ≤ x.toNat := by
  intro x hx
  obtain ⟨j, hj, rfl⟩ := List.mem_iff_getElem.1 hx
  rw [List.length_take] at hj
  rw [List.getElem_take]
  have hg : L[j] = L.getD j 0 := by rw [List.getD_eq_getElem?_getD, List.getElem?_eq_getElem (by omega)]; rfl
  rw [hg]
  have hw : j < wd L := by omega
  unfold rn wd at *
  rw [decodeL_N] at h hw hne
  rcases decodeN_shape L.length (L.getD 0 0).toNat (L.getD 1 0).toNat (L.getD 2 0).toNat (L.getD 3 0).toNat with ⟨c, e⟩ | ⟨c1, c2, c3, cv, e⟩ | ⟨c1, c2, c3, c4, cv, cs, e⟩ | ⟨c1, c2, c3, c4, c5, cv, cw, e⟩ | e
  all_goals rw [e] at h hw hne
  all_goals dsimp only at h hw
  · omega
  · rcases (show j = 0 ∨ j = 1 by omega) with rfl | rfl <;> omega
  · rcases (show j = 0 ∨ j = 1 ∨ j = 2 by omega) with rfl | rfl | rfl <;> omega
  · rcases (show j = 0 ∨ j = 1 ∨ j = 2 ∨ j = 3 by omega) with rfl | rfl | rfl | rfl <;> omega
  · exact absurd rfl hne
theorem blk_head (L : List UInt8) (h : blkP (rn L) = true) (hne : L ≠ []) : ((hd L : Nat) : Int) = rn L ∧ wd L = 1 := by
  have h1 := blk_small _ h
  have h2 := ascii_rn L (by omega)
  cases L with
  | nil => exact absurd rfl hne
  | cons x t => exact ⟨h2.2, h2.1⟩
theorem blk_ascii (L : List UInt8) (h : hd L < 128) : blkP (rn L) = blkP ((hd L : Nat) : Int) := by
  obtain ⟨x, t, rfl, hx⟩ := hd_lt L (by omega)
  rw [hx] at h ⊢
  rw [(rn_ascii x t h).1]
theorem dec_same (L M : List UInt8) (hg : decodeL L ≠ (65533, 1)) (hM : wd L ≤ M.length) (h : M.take (wd L) = L.take (wd L)) : decodeL M = decodeL L := by
  have hw := Wrd.wd_pos L
  have g : ∀ i, i < wd L → M.getD i 0 = L.getD i 0 := by
    intro i hi
    rw [← getD_takeU M (wd L) i hi, h, getD_takeU L (wd L) i hi]
  unfold wd at *
  rw [decodeL_N] at hg
  rw [decodeL_N L] at hM g hw
  rw [decodeL_N M, decodeL_N L, g 0 (by omega)]
  exact Wrd.decodeN_piece _ _ _ _ _ _ _ _ (fun q => by rw [g 1 q]) (fun q => by rw [g 2 q]) (fun q => by rw [g 3 q]) _ hM hg

/-- One sign behind a backslash; 0: none. -/
def short (x : Nat) : Nat :=
  if x = 97 then 7 else if x = 98 then 8 else if x = 116 then 9 else if x = 110 then 10 else if x = 118 then 11 else if x = 102 then 12 else if x = 114 then 13 else if x = 92 ∨ x = 34 ∨ x = 39 then x else 0
/-- Digits of a base: their worth, but at most one more than the greatest; how many there are. -/
def digE (b : Nat) (L : List UInt8) : Nat × Nat := (min (Num.valOf b 0 (L.take (Num.run b L))) 1114112, Num.run b L)
def lettE (b : Nat) (L : List UInt8) : Nat × Nat := if Num.run b L = 0 then (0, 0) else ((digE b L).1, Num.run b L + 1)
def namesL : List (List UInt8) := [[78, 85, 76], [83, 79, 72], [83, 84, 88], [69, 84, 88], [69, 79, 84], [69, 78, 81], [65, 67, 75], [66, 69, 76], [66, 83], [72, 84], [76, 70], [86, 84], [70, 70], [67, 82], [83, 79], [83, 73], [68, 76, 69], [68, 67, 49], [68, 67, 50], [68, 67, 51], [68, 67, 52], [78, 65, 75], [83, 89, 78], [69, 84, 66], [67, 65, 78], [69, 77], [83, 85, 66], [69, 83, 67], [70, 83], [71, 83], [82, 83], [85, 83], [83, 80]]
def delL : List UInt8 := [68, 69, 76]
def beg (m L : List UInt8) : Bool := L.take m.length == m
/-- The longest name among ms that L begins with, the first of them being number i. -/
def nameG : List (List UInt8) → Nat → List UInt8 → Nat × Nat → Nat × Nat
  | [], _, _, acc => acc
  | m :: ms, i, L, acc => nameG ms (i + 1) L (if acc.2 < m.length ∧ beg m L = true then (i, m.length) else acc)
def nameE (L : List UInt8) : Nat × Nat := if beg delL L = true then (127, 3) else nameG namesL 0 L (0, 0)
/-- The escape that L begins with, L being what follows the backslash: its number, and how many bytes belong to it; 0: none. -/
def escE (L : List UInt8) : Nat × Nat :=
  if short (hd L) ≠ 0 then (short (hd L), 1)
  else if hd L = 94 then (if 64 ≤ hd (L.drop 1) ∧ hd (L.drop 1) ≤ 95 then (hd (L.drop 1) - 64, 2) else (0, 0))
  else if hd L = 111 then lettE 8 (L.drop 1)
  else if hd L = 120 then lettE 16 (L.drop 1)
  else if 48 ≤ hd L ∧ hd L ≤ 57 then digE 10 L
  else nameE L

theorem short_bd (x : Nat) : short x = 0 ∨ ((7 ≤ short x ∧ short x ≤ 92) ∧ 34 ≤ x ∧ x ≤ 118) := by
  unfold short
  repeat' split
  all_goals omega
theorem short_dig (x : Nat) (h : 48 ≤ x ∧ x ≤ 57) : short x = 0 := by
  unfold short
  repeat' split
  all_goals omega

theorem run_hd (b : Nat) {R S : List UInt8} (h : hd R = hd S) (hs : Num.run b S = 0) : Num.run b R = 0 := by
  rcases hd_same h with ⟨rfl, rfl⟩ | ⟨x, t, u, rfl, rfl⟩
  · rfl
  · rw [Num.run] at hs ⊢
    split at hs
    · omega
    · rename_i q
      rw [if_neg q]
theorem run_end (b : Nat) : ∀ L : List UInt8, Num.run b (L.drop (Num.run b L)) = 0
  | [] => rfl
  | x :: L => by
    by_cases q : Num.isD b x = true
    · rw [Num.run, if_pos q, List.drop_succ_cons]
      exact run_end b L
    · rw [Num.run, if_neg q, List.drop_zero, Num.run, if_neg q]
theorem run_pre (b : Nat) (L R : List UInt8) (hr : hd R = hd (L.drop (Num.run b L))) : Num.run b (L.take (Num.run b L) ++ R) = Num.run b L := by
  rw [Num.run_app b _ _ (Num.run_allD b L), run_hd b hr (run_end b L), List.length_take, Nat.add_zero, Nat.min_eq_left (Num.run_le b L)]
theorem digE_same (b : Nat) (L R : List UInt8) (hr : hd R = hd (L.drop (Num.run b L))) : digE b (L.take (Num.run b L) ++ R) = digE b L := by
  unfold digE
  rw [run_pre b L R hr, List.take_append_of_le_length (by rw [List.length_take, Nat.min_eq_left (Num.run_le b L)]; exact Nat.le_refl _), List.take_take, Nat.min_self]

theorem beg_three (m L : List UInt8) (h : m.length ≤ 3) : beg m (L.take 3) = beg m L := by
  unfold beg
  rw [List.take_take, Nat.min_eq_left h]
theorem nameG_three : ∀ (ms : List (List UInt8)) (i : Nat) (L : List UInt8) (acc : Nat × Nat), (∀ m ∈ ms, m.length ≤ 3) → nameG ms i (L.take 3) acc = nameG ms i L acc
  | [], _, _, _, _ => rfl
  | m :: ms, i, L, acc, h => by
    rw [nameG, nameG, beg_three m L (h m (by simp))]
    exact nameG_three ms _ L _ (fun x hx => h x (by simp [hx]))
theorem names_short : ∀ m ∈ delL :: namesL, 2 ≤ m.length ∧ m.length ≤ 3 ∧ (∀ x ∈ m, 49 ≤ x.toNat ∧ x.toNat ≤ 90) ∧ 65 ≤ hd m := by decide +kernel
theorem nameE_three (L : List UInt8) : nameE (L.take 3) = nameE L := by
  unfold nameE
  rw [beg_three delL L (by decide), nameG_three namesL 0 L (0, 0) (fun m hm => (names_short m (List.mem_cons_of_mem _ hm)).2.1)]
theorem nameG_is : ∀ (ms : List (List UInt8)) (i : Nat) (L : List UInt8) (acc : Nat × Nat), nameG ms i L acc = acc ∨ ∃ m ∈ ms, beg m L = true ∧ (nameG ms i L acc).2 = m.length ∧ (nameG ms i L acc).1 < i + ms.length
  | [], _, _, _ => .inl rfl
  | m :: ms, i, L, acc => by
    rw [nameG]
    by_cases q : acc.2 < m.length ∧ beg m L = true
    · rw [if_pos q]
      rcases nameG_is ms (i + 1) L (i, m.length) with h | ⟨n, h1, h2, h3, h4⟩
      · exact .inr ⟨m, by simp, q.2, by rw [h], by rw [h, List.length_cons]; simp⟩
      · exact .inr ⟨n, by simp [h1], h2, h3, by rw [List.length_cons]; omega⟩
    · rw [if_neg q]
      rcases nameG_is ms (i + 1) L acc with h | ⟨n, h1, h2, h3, h4⟩
      · exact .inl h
      · exact .inr ⟨n, by simp [h1], h2, h3, by rw [List.length_cons]; omega⟩
theorem nameE_is (L : List UInt8) : nameE L = (0, 0) ∨ ∃ m ∈ delL :: namesL, beg m L = true ∧ (nameE L).2 = m.length ∧ (nameE L).1 ≤ 127 := by
  unfold nameE
  by_cases q : beg delL L = true
  · rw [if_pos q]
    exact .inr ⟨delL, by simp, q, rfl, Nat.le_refl _⟩
  · rw [if_neg q]
    rcases nameG_is namesL 0 L (0, 0) with h | ⟨m, h1, h2, h3, h4⟩
    · exact .inl h
    · exact .inr ⟨m, by simp [h1], h2, h3, by have : namesL.length = 33 := rfl; omega⟩
theorem beg_take (m L : List UInt8) (h : beg m L = true) : L.take m.length = m ∧ m.length ≤ L.length := by
  have e : L.take m.length = m := beq_iff_eq.1 h
  refine ⟨e, ?_⟩
  have := congrArg List.length e
  rw [List.length_take] at this
  omega
theorem nameE_bytes (L : List UInt8) (h : (nameE L).2 ≠ 0) : 2 ≤ (nameE L).2 ∧ (nameE L).2 ≤ 3 ∧ (nameE L).2 ≤ L.length ∧ (∀ x ∈ L.take (nameE L).2, 49 ≤ x.toNat ∧ x.toNat ≤ 90) ∧ 65 ≤ hd L ∧ hd L ≤ 90 := by
  rcases nameE_is L with e | ⟨m, h1, h2, h3, -⟩
  · rw [e] at h
    exact absurd rfl h
  · obtain ⟨e, hl⟩ := beg_take m L h2
    obtain ⟨a, b, c, d⟩ := names_short m h1
    rw [h3, e]
    refine ⟨a, b, hl, c, ?_, ?_⟩
    · rw [← hd_take L m.length (by omega), e]
      exact d
    · rw [← hd_take L m.length (by omega), e]
      cases m with
      | nil => simp at a
      | cons x t => exact (c x (by simp)).2

/-- Which bytes an escape has. -/
theorem escE_bytes (L : List UInt8) (h : (escE L).2 ≠ 0) : (escE L).2 ≤ L.length ∧ (∀ x ∈ L.take (escE L).2, 34 ≤ x.toNat) ∧ 34 ≤ hd L ∧ hd L ≤ 120 ∧ hd L ≠ 38 := by
  have hLne : hd L = 256 → L = [] := by
    cases L with
    | nil => exact fun _ => rfl
    | cons x t =>
      intro e
      have := x.toNat_lt
      simp only [hd] at e
      omega
  have one : ∀ x ∈ L.take 1, x.toNat = hd L := by
    cases L with
    | nil => simp
    | cons y t => simp [hd]
  have lett : ∀ b, (lettE b (L.drop 1)).2 ≠ 0 → 34 ≤ hd L → hd L ≠ 256 → (lettE b (L.drop 1)).2 ≤ L.length ∧ (∀ x ∈ L.take (lettE b (L.drop 1)).2, 34 ≤ x.toNat) := by
    intro b h0 h1 h2
    unfold lettE at h0 ⊢
    split at h0
    · exact absurd rfl h0
    · rename_i q
      rw [if_neg q]
      dsimp only
      obtain ⟨y, t, rfl, hy⟩ := hd_lt L h2
      rw [List.drop_succ_cons, List.drop_zero] at *
      have := Num.run_le b t
      refine ⟨by rw [List.length_cons]; omega, ?_⟩
      intro x hx
      rw [List.take_succ_cons, List.mem_cons] at hx
      rcases hx with rfl | hx
      · omega
      · have := List.all_eq_true.1 (Num.run_allD b t) x hx
        have h3 := of_decide_eq_true this
        have h4 : (48 : Int) ≤ ((x.toNat : Nat) : Int) := by
          unfold Num.dg digitI digV wthn at h3
          simp only [Bool.and_eq_true, decide_eq_true_eq] at h3
          split at h3
          · omega
          · split at h3
            · omega
            · split at h3
              · omega
              · split at h3 <;> omega
        omega
  unfold escE at h ⊢
  by_cases h1 : short (hd L) ≠ 0
  · rw [if_pos h1]
    dsimp only
    have h2 := short_bd (hd L)
    have hne : L ≠ [] := by
      rintro rfl
      exact h1 rfl
    refine ⟨by have := List.length_pos_iff.2 hne; omega, fun x hx => by rw [one x hx]; omega, by omega, by omega, ?_⟩
    intro h38
    rw [h38] at h1
    exact h1 rfl
  · rw [if_neg h1] at h ⊢
    by_cases h2 : hd L = 94
    · rw [if_pos h2] at h ⊢
      obtain ⟨y, t, rfl, hy⟩ := hd_lt L (by omega)
      rw [List.drop_succ_cons, List.drop_zero] at *
      split at h
      · rename_i q
        rw [if_pos q]
        dsimp only
        obtain ⟨z, u, rfl, hz⟩ := hd_lt t (by omega)
        refine ⟨by simp, ?_, by omega, by omega, by omega⟩
        intro x hx
        simp only [List.take_succ_cons, List.take_zero, List.mem_cons, List.not_mem_nil, or_false] at hx
        rcases hx with rfl | rfl <;> omega
      · exact absurd rfl h
    · rw [if_neg h2] at h ⊢
      by_cases h3 : hd L = 111
      · rw [if_pos h3] at h ⊢
        obtain ⟨a, b⟩ := lett 8 h (by omega) (by omega)
        exact ⟨a, b, by omega, by omega, by omega⟩
      · rw [if_neg h3] at h ⊢
        by_cases h4 : hd L = 120
        · rw [if_pos h4] at h ⊢
          obtain ⟨a, b⟩ := lett 16 h (by omega) (by omega)
          exact ⟨a, b, by omega, by omega, by omega⟩
        · rw [if_neg h4] at h ⊢
          by_cases h5 : 48 ≤ hd L ∧ hd L ≤ 57
          · rw [if_pos h5]
            refine ⟨Num.run_le 10 L, ?_, by omega, by omega, by omega⟩
            intro x hx
            have := (Num.dg_ten' x (List.all_eq_true.1 (Num.run_allD 10 L) x hx)).2
            omega
          · rw [if_neg h5] at h ⊢
            obtain ⟨a, b, c, d, e, f⟩ := nameE_bytes L h
            exact ⟨c, fun x hx => by have := d x hx; omega, by omega, by omega, by omega⟩
theorem lettE_same (b : Nat) (L R : List UInt8) (h : (lettE b L).2 ≠ 0) (hr : hd R = hd (L.drop ((lettE b L).2 - 1))) : lettE b (L.take ((lettE b L).2 - 1) ++ R) = lettE b L := by
  unfold lettE at h hr ⊢
  split at h
  · exact absurd rfl h
  · rename_i q
    rw [if_neg q] at hr
    simp only [if_neg q, Nat.add_sub_cancel] at hr ⊢
    rw [run_pre b L R hr, if_neg q, digE_same b L R hr]
/-- An escape hangs on its own bytes and on the byte behind it. -/
theorem escE_same (L R : List UInt8) (h : (escE L).2 ≠ 0) (hr : hd R = hd (L.drop (escE L).2)) : escE (L.take (escE L).2 ++ R) = escE L := by
  obtain ⟨hl, -, hlo, hhi, -⟩ := escE_bytes L h
  have e0 : hd (L.take (escE L).2 ++ R) = hd L := hd_at L R _ 0 hl (Nat.zero_le _) hr
  have dr : ∀ k, k + 1 ≤ L.length → (L.take (k + 1) ++ R).drop 1 = (L.drop 1).take k ++ R := by
    intro k hk
    obtain ⟨y, t, rfl, -⟩ := hd_lt L (by omega)
    simp
  have hh : escE L = if short (hd L) ≠ 0 then (short (hd L), 1)
    else if hd L = 94 then (if 64 ≤ hd (L.drop 1) ∧ hd (L.drop 1) ≤ 95 then (hd (L.drop 1) - 64, 2) else (0, 0))
    else if hd L = 111 then lettE 8 (L.drop 1)
    else if hd L = 120 then lettE 16 (L.drop 1)
    else if 48 ≤ hd L ∧ hd L ≤ 57 then digE 10 L
    else nameE L := rfl
  have hU : ∀ M, escE M = if short (hd M) ≠ 0 then (short (hd M), 1)
    else if hd M = 94 then (if 64 ≤ hd (M.drop 1) ∧ hd (M.drop 1) ≤ 95 then (hd (M.drop 1) - 64, 2) else (0, 0))
    else if hd M = 111 then lettE 8 (M.drop 1)
    else if hd M = 120 then lettE 16 (M.drop 1)
    else if 48 ≤ hd M ∧ hd M ≤ 57 then digE 10 M
    else nameE M := fun _ => rfl
  have hM : escE (L.take (escE L).2 ++ R) = if short (hd L) ≠ 0 then (short (hd L), 1)
    else if hd L = 94 then (if 64 ≤ hd ((L.take (escE L).2 ++ R).drop 1) ∧ hd ((L.take (escE L).2 ++ R).drop 1) ≤ 95 then (hd ((L.take (escE L).2 ++ R).drop 1) - 64, 2) else (0, 0))
    else if hd L = 111 then lettE 8 ((L.take (escE L).2 ++ R).drop 1)
    else if hd L = 120 then lettE 16 ((L.take (escE L).2 ++ R).drop 1)
    else if 48 ≤ hd L ∧ hd L ≤ 57 then digE 10 (L.take (escE L).2 ++ R)
    else nameE (L.take (escE L).2 ++ R) := by
    rw [hU, e0]
  have e1 : hd ((L.take (escE L).2 ++ R).drop 1) = hd (L.drop 1) := hd_at L R _ 1 hl (by omega) hr
  rw [hM, e1]
  generalize escE L = z at *
  by_cases h1 : short (hd L) ≠ 0
  · rw [if_pos h1] at hh ⊢
    exact hh.symm
  · rw [if_neg h1] at hh ⊢
    by_cases h2 : hd L = 94
    · rw [if_pos h2] at hh ⊢
      exact hh.symm
    · rw [if_neg h2] at hh ⊢
      by_cases h3 : hd L = 111
      · rw [if_pos h3] at hh ⊢
        obtain ⟨k, hk⟩ : ∃ k, z.2 = k + 1 := ⟨z.2 - 1, by omega⟩
        rw [hk] at hl hr ⊢
        rw [dr k hl]
        have h9 : (lettE 8 (L.drop 1)).2 - 1 = k := by rw [← hh, hk]; rfl
        rw [← h9, hh]
        exact lettE_same 8 _ R (by rw [← hh]; exact h) (by rw [h9, List.drop_drop, Nat.add_comm 1 k]; exact hr)
      · rw [if_neg h3] at hh ⊢
        by_cases h4 : hd L = 120
        · rw [if_pos h4] at hh ⊢
          obtain ⟨k, hk⟩ : ∃ k, z.2 = k + 1 := ⟨z.2 - 1, by omega⟩
          rw [hk] at hl hr ⊢
          rw [dr k hl]
          have h9 : (lettE 16 (L.drop 1)).2 - 1 = k := by rw [← hh, hk]; rfl
          rw [← h9, hh]
          exact lettE_same 16 _ R (by rw [← hh]; exact h) (by rw [h9, List.drop_drop, Nat.add_comm 1 k]; exact hr)
        · rw [if_neg h4] at hh ⊢
          by_cases h5 : 48 ≤ hd L ∧ hd L ≤ 57
          · rw [if_pos h5] at hh ⊢
            have h9 : z.2 = Num.run 10 L := by rw [hh]; rfl
            rw [h9] at hr ⊢
            rw [digE_same 10 L R hr, hh]
          · rw [if_neg h5] at hh ⊢
            have h9 := nameE_bytes L (by rw [← hh]; exact h)
            rw [← hh] at h9
            refine Eq.trans ?_ hh.symm
            rw [← nameE_three, ← nameE_three L]
            congr 1
            rcases (show z.2 = 2 ∨ z.2 = 3 by omega) with e | e
            · rw [e] at hl hr ⊢
              rcases hd_same hr with ⟨rfl, q⟩ | ⟨x, t, u, rfl, q⟩
              · rw [List.append_nil, List.take_take]
                have := congrArg List.length q
                rw [List.length_drop] at this
                simp at this
                rw [List.take_of_length_le (show L.length ≤ 3 by omega), List.take_of_length_le (by omega)]
              · have e3 : L = L.take 2 ++ x :: u := by rw [← q]; exact (List.take_append_drop 2 L).symm
                have hl2 : (L.take 2).length = 2 := by rw [List.length_take]; omega
                conv => rhs; rw [e3]
                rw [List.take_append, List.take_append, hl2]
                rfl
            · rw [e] at hl ⊢
              have hl3 : (L.take 3).length = 3 := by rw [List.length_take]; omega
              rw [List.take_append, hl3, List.take_take]
              simp
end Go.Proofs.YtdppfhgihoibnaaDoor.Qt
