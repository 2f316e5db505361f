/-
  Plain facts about comments in a row of bytes: where a nested one ends, its lines, and what it is when its lines are laid anew. No program is run here.
-/
import Derived.Test.YtcbjcgbfdniieaaDoorWrdMath
import Derived.Test.YtcbjcgbfdniieaaDoorPlcCut
namespace Go.Proofs.YtcbjcgbfdniieaaDoor.Not
open Go.Lib Gly
open Wrd (rn wd run)
set_option linter.unusedSimpArgs false
set_option linter.unusedVariables false

/-! ### Nested comments -/

/-- One byte on: how deep, and whether the byte may begin a pair (1: an opening one, 2: a closing one, 0: neither). -/
def stp (d q : Nat) (b : UInt8) : Nat × Nat :=
  if q = 1 ∧ b = 45 then (d + 1, 0)
  else if q = 2 ∧ b = 125 then (d - 1, 0)
  else if b = 123 then (d, 1) else if b = 45 then (d, 2) else (d, 0)
/-- How many bytes there are up to the end of the comment that is d deep; 0: it does not end. -/
def endA : Nat → Nat → List UInt8 → Nat
  | _, _, [] => 0
  | d, q, b :: r => if (stp d q b).1 = 0 then 1 else if endA (stp d q b).1 (stp d q b).2 r = 0 then 0 else endA (stp d q b).1 (stp d q b).2 r + 1
theorem endA_le : ∀ (L : List UInt8) (d q : Nat), endA d q L ≤ L.length
  | [], _, _ => Nat.le_refl _
  | b :: r, d, q => by
    have := endA_le r (stp d q b).1 (stp d q b).2
    rw [endA, List.length_cons]
    repeat' split
    all_goals omega
/-- What stands behind its end is no matter. -/
theorem endA_cut : ∀ (L M : List UInt8) (d q : Nat), endA d q L ≠ 0 → endA d q (L.take (endA d q L) ++ M) = endA d q L
  | [], _, _, _, h => absurd rfl h
  | b :: r, M, d, q, h => by
    rw [endA] at h ⊢
    by_cases h0 : (stp d q b).1 = 0
    · rw [if_pos h0, List.take_succ_cons, List.cons_append, endA, if_pos h0]
    · rw [if_neg h0] at h ⊢
      by_cases h1 : endA (stp d q b).1 (stp d q b).2 r = 0
      · rw [if_pos h1] at h
        exact absurd rfl h
      · rw [if_neg h1, List.take_succ_cons, List.cons_append, endA, if_neg h0, endA_cut r M _ _ h1, if_neg h1]

/-- Is it a pair with the byte behind it? -/
def pair (b c : UInt8) : Bool := (b == 123 && c == 45) || (b == 45 && c == 125)
theorem endA_open (d : Nat) (hd : 0 < d) (r : List UInt8) : endA d 0 (123 :: 45 :: r) = if endA (d + 1) 0 r = 0 then 0 else endA (d + 1) 0 r + 2 := by
  have e1 : stp d 0 123 = (d, 1) := rfl
  have e2 : stp d 1 45 = (d + 1, 0) := rfl
  rw [endA, e1]
  dsimp only
  rw [if_neg (show ¬ d = 0 by omega), endA, e2]
  dsimp only
  rw [if_neg (show ¬ d + 1 = 0 by omega)]
  (repeat' split) <;> omega
theorem endA_close (d : Nat) (hd : 0 < d) (r : List UInt8) : endA d 0 (45 :: 125 :: r) = if d = 1 then 2 else if endA (d - 1) 0 r = 0 then 0 else endA (d - 1) 0 r + 2 := by
  have e1 : stp d 0 45 = (d, 2) := rfl
  have e2 : stp d 2 125 = (d - 1, 0) := rfl
  rw [endA, e1]
  dsimp only
  rw [if_neg (show ¬ d = 0 by omega), endA, e2]
  dsimp only
  by_cases h1 : d = 1
  · rw [if_pos (show d - 1 = 0 by omega), if_pos h1, if_neg (by decide)]
  · rw [if_neg (show ¬ d - 1 = 0 by omega), if_neg h1]
    (repeat' split) <;> omega
theorem stp_first (d q : Nat) (b : UInt8) : (stp d 0 b).1 = d := by
  unfold stp
  rw [if_neg (fun x => absurd x.1 (by decide)), if_neg (fun x => absurd x.1 (by decide))]
  (repeat' split) <;> rfl
theorem stp_next (d : Nat) (b c : UInt8) (h : pair b c = false) : stp d (stp d 0 b).2 c = stp d 0 c := by
  have hq : (stp d 0 b).2 = if b = 123 then 1 else if b = 45 then 2 else 0 := by
    unfold stp
    rw [if_neg (fun x => absurd x.1 (by decide)), if_neg (fun x => absurd x.1 (by decide))]
    (repeat' split) <;> rfl
  rw [hq]
  have h1 : ¬ (b = 123 ∧ c = 45) := by
    rintro ⟨rfl, rfl⟩
    revert h
    decide
  have h2 : ¬ (b = 45 ∧ c = 125) := by
    rintro ⟨rfl, rfl⟩
    revert h
    decide
  unfold stp
  by_cases e : b = 123
  · have hc : ¬ c = 45 := fun x => h1 ⟨e, x⟩
    subst e
    simp [hc]
  · by_cases e2 : b = 45
    · have hc : ¬ c = 125 := fun x => h2 ⟨e2, x⟩
      subst e2
      simp [hc]
    · simp [e, e2]
theorem endA_other (d : Nat) (hd : 0 < d) (b c : UInt8) (r : List UInt8) (h : pair b c = false) : endA d 0 (b :: c :: r) = if endA d 0 (c :: r) = 0 then 0 else endA d 0 (c :: r) + 1 := by
  have e : endA d (stp d 0 b).2 (c :: r) = endA d 0 (c :: r) := by simp only [endA, stp_next d b c h]
  rw [endA, stp_first d 0 b, if_neg (by omega), e]
theorem endA_one (d : Nat) (hd : 0 < d) (b : UInt8) : endA d 0 [b] = 0 := by
  rw [endA, stp_first d 0 b, if_neg (by omega)]
  rfl

/-! ### Blanks -/

/-- Is a byte a blank? -/
def blk (b : UInt8) : Bool := decide (b.toNat = 32 ∨ (9 ≤ b.toNat ∧ b.toNat ≤ 13))
/-- Does a newline begin with it? -/
def nl (b : UInt8) : Bool := b == 10 || b == 12 || b == 13
/-- A tab of either kind is a space. -/
def fl (b : UInt8) : UInt8 := if b = 9 ∨ b = 11 then 32 else b
theorem byte_all (P : UInt8 → Bool) (h : ∀ k : Fin 256, P (UInt8.ofNat k.val) = true) (b : UInt8) : P b = true := by
  have := h ⟨b.toNat, b.toNat_lt⟩
  simpa using this
theorem nl_blk (b : UInt8) (h : nl b = true) : blk b = true := by
  have := byte_all (fun b => !nl b || blk b) (by decide +kernel) b
  rw [h] at this
  simpa using this
theorem fl_blk (b : UInt8) : blk (fl b) = blk b := by
  have := byte_all (fun b => blk (fl b) == blk b) (by decide +kernel) b
  simpa using this
theorem fl_same (b : UInt8) (h : blk b = false) : fl b = b := by
  have := byte_all (fun b => blk b || fl b == b) (by decide +kernel) b
  rw [h] at this
  simpa using this
theorem fl_nl (b : UInt8) : nl (fl b) = nl b := by
  have := byte_all (fun b => nl (fl b) == nl b) (by decide +kernel) b
  simpa using this
theorem fl_fl (b : UInt8) : fl (fl b) = fl b := by
  have := byte_all (fun b => fl (fl b) == fl b) (by decide +kernel) b
  simpa using this
/-- A blank in a line whose tabs are spaces is a space. -/
theorem fl_space (b : UInt8) (h : nl b = false) (hb : blk b = true) : fl b = 32 := by
  have := byte_all (fun b => nl b || !blk b || fl b == 32) (by decide +kernel) b
  rw [h, hb] at this
  simpa using this

/-- Are all blanks? -/
def allBlk (l : List UInt8) : Prop := ∀ b ∈ l, blk b = true
/-- Is no newline among them? -/
def noNl (l : List UInt8) : Prop := ∀ b ∈ l, nl b = false
theorem allBlk.nil : allBlk [] := fun _ h => nomatch h
theorem allBlk.cons {b : UInt8} {l : List UInt8} (hb : blk b = true) (h : allBlk l) : allBlk (b :: l) := by
  intro c hc
  rcases List.mem_cons.1 hc with rfl | hc
  · exact hb
  · exact h c hc
theorem allBlk.append {a b : List UInt8} (ha : allBlk a) (hb : allBlk b) : allBlk (a ++ b) := by
  intro c hc
  rcases List.mem_append.1 hc with hc | hc
  · exact ha c hc
  · exact hb c hc
theorem noNl.tail {b : UInt8} {l : List UInt8} (h : noNl (b :: l)) : noNl l := fun c hc => h c (List.mem_cons_of_mem _ hc)
theorem noNl.cons {b : UInt8} {l : List UInt8} (hb : nl b = false) (h : noNl l) : noNl (b :: l) := by
  intro c hc
  rcases List.mem_cons.1 hc with rfl | hc
  · exact hb
  · exact h c hc

/-! ### Lines -/

/-- A byte at the beginning of the first line. -/
def consH (b : UInt8) : List (List UInt8) → List (List UInt8)
  | [] => [[b]]
  | h :: t => (b :: h) :: t
/-- The lines; p: the byte before was a carriage return. -/
def linesG : Bool → List UInt8 → List (List UInt8)
  | _, [] => [[]]
  | p, b :: r => if p = true ∧ b = 10 then linesG false r else if nl b = true then [] :: linesG (b == 13) r else consH b (linesG false r)
def linesB (l : List UInt8) : List (List UInt8) := linesG false l
theorem linesG_true (y : List UInt8) (h : y.head? ≠ some 10) : linesG true y = linesB y := by
  unfold linesB
  cases y with
  | nil => rfl
  | cons b r =>
    have hb : b ≠ 10 := fun e => h (by rw [e]; rfl)
    simp [linesG, hb]
theorem linesG_ne (p : Bool) (l : List UInt8) : linesG p l ≠ [] := by
  have key : ∀ (l : List UInt8) (p : Bool), linesG p l ≠ [] := by
    intro l
    induction l with
    | nil => intro p h; cases h
    | cons b r ih =>
      intro p
      rw [linesG]
      split
      · exact ih false
      · split
        · exact fun h => nomatch h
        · cases hl : linesG false r with
          | nil => exact absurd hl (ih false)
          | cons h t => exact fun h => nomatch h
  exact key l p
theorem linesB_ne (l : List UInt8) : linesB l ≠ [] := linesG_ne false l
theorem linesB_plain (b : UInt8) (r : List UInt8) (h : nl b = false) : linesB (b :: r) = consH b (linesB r) := by
  have hb : b ≠ 10 := by rintro rfl; revert h; decide
  unfold linesB
  rw [linesG, if_neg (fun e => hb e.2), if_neg (by rw [h]; decide)]
theorem linesB_one (b : UInt8) (r : List UInt8) (h : nl b = true) (h2 : ¬ (b = 13 ∧ r.head? = some 10)) : linesB (b :: r) = [] :: linesB r := by
  unfold linesB
  rw [linesG, if_neg (fun e => nomatch e.1), if_pos h]
  by_cases e : b = 13
  · rw [show (b == 13) = true from beq_iff_eq.2 e, linesG_true r (fun q => h2 ⟨e, q⟩)]
    rfl
  · rw [show (b == 13) = false from beq_eq_false_iff_ne.2 e]
theorem linesB_two (r : List UInt8) : linesB (13 :: 10 :: r) = [] :: linesB r := by
  unfold linesB
  rw [linesG, if_neg (fun e => nomatch e.1), if_pos (by decide), show ((13 : UInt8) == 13) = true from rfl, linesG, if_pos ⟨rfl, rfl⟩]
theorem linesB_last : ∀ (l : List UInt8), noNl l → linesB l = [l]
  | [], _ => rfl
  | b :: r, h => by
    rw [linesB_plain b r (h b (List.mem_cons_self ..)), linesB_last r h.tail]
    rfl
theorem linesB_step : ∀ (l y : List UInt8), noNl l → linesB (l ++ 10 :: y) = l :: linesB y
  | [], y, _ => linesB_one 10 y (by decide) (fun h => absurd h.1 (by decide))
  | b :: r, y, h => by
    rw [List.cons_append, linesB_plain b _ (h b (List.mem_cons_self ..)), linesB_step r y h.tail]
    rfl
/-- Either there is no newline, or there is a first line, and a newline. -/
theorem linesB_cases : ∀ (x : List UInt8), noNl x ∨ ∃ l n y, noNl l ∧ x = l ++ (n ++ y) ∧ n ≠ [] ∧ allBlk n ∧ linesB x = l :: linesB y
  | [] => .inl (fun _ h => nomatch h)
  | b :: r => by
    cases hb : nl b with
    | false =>
      rcases linesB_cases r with h | ⟨l, n, y, h1, h2, h3, h4, h5⟩
      · exact .inl (noNl.cons hb h)
      · refine .inr ⟨b :: l, n, y, noNl.cons hb h1, by rw [h2]; rfl, h3, h4, ?_⟩
        rw [linesB_plain b r hb, h5]
        rfl
    | true =>
      refine .inr ?_
      by_cases h2 : b = 13 ∧ r.head? = some 10
      · obtain ⟨rfl, h2⟩ := h2
        cases r with
        | nil => cases h2
        | cons c r =>
          obtain rfl : c = 10 := by simpa using h2
          exact ⟨[], [13, 10], r, (fun _ h => nomatch h), rfl, by simp, (by intro c hc; simp at hc; rcases hc with rfl | rfl <;> decide), linesB_two r⟩
      · exact ⟨[], [b], r, (fun _ h => nomatch h), rfl, by simp, (by intro c hc; simp at hc; subst hc; exact nl_blk _ hb), linesB_one b r hb h2⟩

/-! ### A line without blanks at its ends -/

def trimR : List UInt8 → List UInt8
  | [] => []
  | b :: l => if trimR l = [] ∧ blk b = true then [] else b :: trimR l
theorem trimR_split : ∀ (l : List UInt8), ∃ z, l = trimR l ++ z ∧ allBlk z
  | [] => ⟨[], rfl, allBlk.nil⟩
  | b :: l => by
    obtain ⟨z, h1, h2⟩ := trimR_split l
    rw [trimR]
    split
    · rename_i h
      rw [h.1] at h1
      exact ⟨b :: z, by rw [h1]; rfl, allBlk.cons h.2 h2⟩
    · refine ⟨z, ?_, h2⟩
      rw [List.cons_append, ← h1]
theorem trimR_last : ∀ (l : List UInt8) (b : UInt8), (trimR l).getLast? = some b → blk b = false
  | [], b, h => by simp [trimR] at h
  | c :: l, b, h => by
    rw [trimR] at h
    split at h
    · simp at h
    · rename_i hn
      cases hl : trimR l with
      | nil =>
        rw [hl] at h
        obtain rfl : c = b := by simpa using h
        cases hb : blk c with
        | false => rfl
        | true => exact absurd ⟨hl, hb⟩ hn
      | cons d m =>
        have : (trimR l).getLast? = some b := by
          rw [hl] at h ⊢
          simpa using h
        exact trimR_last l b this
theorem trimR_blank : ∀ (z : List UInt8), allBlk z → trimR z = []
  | [], _ => rfl
  | b :: l, h => by rw [trimR, if_pos ⟨trimR_blank l (fun c hc => h c (List.mem_cons_of_mem _ hc)), h b (List.mem_cons_self ..)⟩]
theorem trimR_append : ∀ (x z : List UInt8), allBlk z → (∀ b, x.getLast? = some b → blk b = false) → trimR (x ++ z) = x
  | [], z, hz, _ => trimR_blank z hz
  | b :: x, z, hz, h => by
    rw [List.cons_append, trimR]
    have hx : ∀ c, x.getLast? = some c → blk c = false := by
      intro c hc
      apply h
      rw [List.getLast?_cons, hc]
      rfl
    rw [trimR_append x z hz hx, if_neg]
    rintro ⟨h1, h2⟩
    subst h1
    rw [h b rfl] at h2
    cases h2
theorem trimR_self (x : List UInt8) (h : ∀ b, x.getLast? = some b → blk b = false) : trimR x = x := by
  have := trimR_append x [] allBlk.nil h
  rwa [List.append_nil] at this
theorem trimR_le (l : List UInt8) : (trimR l).length ≤ l.length := by
  obtain ⟨z, h, _⟩ := trimR_split l
  have := congrArg List.length h
  rw [List.length_append] at this
  omega
def trimL (l : List UInt8) : List UInt8 := l.dropWhile (· == 32)
theorem trimL_le : ∀ (l : List UInt8), (trimL l).length ≤ l.length
  | [] => Nat.le_refl _
  | b :: l => by
    have := trimL_le l
    unfold trimL at this ⊢
    rw [List.dropWhile_cons]
    split <;> simp only [List.length_cons] <;> omega
theorem trimL_split : ∀ (l : List UInt8), ∃ a, l = a ++ trimL l ∧ (∀ b ∈ a, b = 32)
  | [] => ⟨[], rfl, fun _ h => nomatch h⟩
  | b :: l => by
    obtain ⟨a, h1, h2⟩ := trimL_split l
    unfold trimL at h1 ⊢
    rw [List.dropWhile_cons]
    split
    · rename_i h
      refine ⟨b :: a, by rw [List.cons_append, ← h1], ?_⟩
      intro c hc
      rcases List.mem_cons.1 hc with rfl | hc
      · exact beq_iff_eq.1 h
      · exact h2 c hc
    · exact ⟨[], rfl, fun _ h => nomatch h⟩
theorem trimL_first : ∀ (l : List UInt8) (b : UInt8), (trimL l).head? = some b → b ≠ 32
  | [], b, h => by simp [trimL] at h
  | c :: l, b, h => by
    unfold trimL at h
    rw [List.dropWhile_cons] at h
    split at h
    · exact trimL_first l b h
    · rename_i hn
      obtain rfl : c = b := by simpa using h
      exact fun e => hn (beq_iff_eq.2 e)
theorem trimL_self (l : List UInt8) (h : l.head? ≠ some 32) : trimL l = l := by
  cases l with
  | nil => rfl
  | cons b r =>
    unfold trimL
    rw [List.dropWhile_cons, if_neg]
    intro e
    exact h (by rw [beq_iff_eq.1 e]; rfl)
theorem trimL_spaces (k : Nat) (l : List UInt8) : trimL (List.replicate k 32 ++ l) = trimL l := by
  induction k with
  | zero => rfl
  | succ k ih =>
    rw [List.replicate_succ, List.cons_append]
    unfold trimL at ih ⊢
    rw [List.dropWhile_cons, if_pos (by decide), ih]
/-- A line, its tabs being spaces, without the blanks at its ends. -/
def bareB (l : List UInt8) : List UInt8 := trimL (trimR (l.map fl))
theorem bareB_le (l : List UInt8) : (bareB l).length ≤ l.length := by
  have h1 := trimL_le (trimR (l.map fl))
  have h2 := trimR_le (l.map fl)
  rw [List.length_map] at h2
  unfold bareB
  omega
/-- A bare line: neither end is a blank, all blanks are spaces. -/
def Bare (l : List UInt8) : Prop := (∀ b ∈ l, blk b = true → b = 32) ∧ (∀ b, l.head? = some b → blk b = false) ∧ (∀ b, l.getLast? = some b → blk b = false)
theorem map_noNl (l : List UInt8) (h : noNl l) : ∀ b ∈ l.map fl, blk b = true → b = 32 := by
  intro b hb hk
  obtain ⟨c, hc, rfl⟩ := List.mem_map.1 hb
  rw [fl_blk] at hk
  exact fl_space c (h c hc) hk
theorem bareB_bare (l : List UInt8) (h : noNl l) : Bare (bareB l) := by
  have hm := map_noNl l h
  obtain ⟨z, hz, _⟩ := trimR_split (l.map fl)
  obtain ⟨a, ha, _⟩ := trimL_split (trimR (l.map fl))
  have hin : ∀ b ∈ bareB l, b ∈ l.map fl := by
    intro b hb
    rw [hz, ha]
    exact List.mem_append_left _ (List.mem_append_right _ hb)
  refine ⟨fun b hb => hm b (hin b hb), fun b hb => ?_, fun b hb => ?_⟩
  · have h1 := trimL_first _ b hb
    cases hk : blk b with
    | false => rfl
    | true => exact absurd (hm b (hin b (List.mem_of_mem_head? hb)) hk) h1
  · apply trimR_last (l.map fl) b
    rw [ha, List.getLast?_append]
    unfold bareB at hb
    rw [hb]
    rfl
theorem Bare.noNl {l : List UInt8} (h : Bare l) : noNl l := by
  intro b hb
  cases hn : nl b with
  | false => rfl
  | true =>
    have := h.1 b hb (nl_blk b hn)
    subst this
    revert hn
    decide
theorem Bare.map {l : List UInt8} (h : Bare l) : l.map fl = l := by
  have : ∀ (m : List UInt8), (∀ b ∈ m, blk b = true → b = 32) → m.map fl = m := by
    intro m
    induction m with
    | nil => intro _; rfl
    | cons b m ih =>
      intro hm
      rw [List.map_cons, ih (fun c hc => hm c (List.mem_cons_of_mem _ hc))]
      cases hk : blk b with
      | false => rw [fl_same b hk]
      | true => rw [hm b (List.mem_cons_self ..) hk]; rfl
  exact this l h.1
theorem Bare.self {l : List UInt8} (h : Bare l) : bareB l = l := by
  unfold bareB
  rw [h.map, trimR_self l h.2.2]
  apply trimL_self
  intro e
  have := h.2.1 32 e
  revert this
  decide
/-- With spaces ahead it is the same line. -/
theorem Bare.padded {l : List UInt8} (h : Bare l) (hne : l ≠ []) (k : Nat) : bareB (List.replicate k 32 ++ l) = l := by
  have h1 : (List.replicate k (32 : UInt8)).map fl = List.replicate k 32 := by rw [List.map_replicate]; rfl
  have h2 : trimR (List.replicate k 32 ++ l) = List.replicate k 32 ++ l := by
    apply trimR_self
    intro b hb
    rw [List.getLast?_append] at hb
    cases hl : l.getLast? with
    | none => exact absurd (List.getLast?_eq_none_iff.1 hl) hne
    | some c =>
      rw [hl] at hb
      obtain rfl : c = b := by simpa using hb
      exact h.2.2 c hl
  unfold bareB
  rw [List.map_append, h1, h.map, h2, trimL_spaces]
  apply trimL_self
  intro e
  have := h.2.1 32 e
  revert this
  decide
/-- What the ends of a line were. -/
theorem bareB_split (l : List UInt8) : ∃ a m z, l = a ++ (m ++ z) ∧ allBlk a ∧ allBlk z ∧ bareB l = m.map fl := by
  obtain ⟨z, hz, kz⟩ := trimR_split (l.map fl)
  obtain ⟨a, ha, ka⟩ := trimL_split (trimR (l.map fl))
  have hl : l.map fl = a ++ (bareB l ++ z) := by
    rw [← List.append_assoc]
    unfold bareB
    rw [← ha, ← hz]
  obtain ⟨a', r', e1, e2, e3⟩ := List.map_eq_append_iff.1 hl
  obtain ⟨m', z', f1, f2, f3⟩ := List.map_eq_append_iff.1 e3
  refine ⟨a', m', z', by rw [e1, f1], ?_, ?_, f2.symm⟩
  · intro b hb
    rw [← fl_blk, ka (fl b) (by rw [← e2]; exact List.mem_map_of_mem hb)]
    decide
  · intro b hb
    rw [← fl_blk]
    exact kz (fl b) (by rw [← f3]; exact List.mem_map_of_mem hb)

/-! ### Lines laid anew -/

/-- The lines but for the first one, each behind a newline, and behind n spaces if it is not empty. -/
def tailB (n : Nat) : List (List UInt8) → List UInt8
  | [] => []
  | l :: ls => 10 :: ((if l = [] then [] else List.replicate n 32 ++ l) ++ tailB n ls)
def joinB (n : Nat) : List (List UInt8) → List UInt8
  | [] => []
  | l :: ls => l ++ tailB n ls
def barL (x : List UInt8) : List (List UInt8) := (linesB x).map bareB
def tidyB (n : Nat) (x : List UInt8) : List UInt8 := joinB n (barL x)

theorem lines_noNl : ∀ (k : Nat) (x : List UInt8), x.length ≤ k → ∀ l ∈ linesB x, noNl l := by
  intro k
  induction k with
  | zero =>
    intro x hx l hl
    obtain rfl : x = [] := List.eq_nil_of_length_eq_zero (by omega)
    have hl : l ∈ [([] : List UInt8)] := hl
    rw [List.mem_singleton] at hl
    subst hl
    exact fun _ h => nomatch h
  | succ k ih =>
    intro x hx l hl
    rcases linesB_cases x with h | ⟨m, n, y, h1, h2, h3, h4, h5⟩
    · rw [linesB_last x h, List.mem_singleton] at hl
      subst hl
      exact h
    · rw [h5] at hl
      rcases List.mem_cons.1 hl with rfl | hl
      · exact h1
      · refine ih y ?_ l hl
        have := congrArg List.length h2
        rw [List.length_append, List.length_append] at this
        have := List.length_pos_iff.2 h3
        omega
theorem barL_bare (x : List UInt8) : ∀ l ∈ barL x, Bare l := by
  intro l hl
  obtain ⟨m, hm, rfl⟩ := List.mem_map.1 hl
  exact bareB_bare m (lines_noNl x.length x (Nat.le_refl _) m hm)
/-- The lines of lines laid anew are these lines, each behind its spaces. -/
theorem lines_tail (n : Nat) : ∀ (ls : List (List UInt8)) (l : List UInt8), noNl l → (∀ m ∈ ls, Bare m) → linesB (l ++ tailB n ls) = l :: ls.map (fun m => if m = [] then [] else List.replicate n 32 ++ m)
  | [], l, hl, _ => by rw [tailB, List.append_nil]; exact linesB_last l hl
  | m :: ls, l, hl, h => by
    rw [tailB, linesB_step l _ hl, lines_tail n ls _ ?_ (fun k hk => h k (List.mem_cons_of_mem _ hk))]
    · rfl
    · have hm := (h m (List.mem_cons_self ..)).noNl
      split
      · exact fun _ h => nomatch h
      · intro b hb
        rcases List.mem_append.1 hb with hb | hb
        · rw [(List.mem_replicate.1 hb).2]
          decide
        · exact hm b hb
theorem barL_join (n : Nat) (L : List (List UInt8)) (hne : L ≠ []) (h : ∀ m ∈ L, Bare m) : barL (joinB n L) = L := by
  cases L with
  | nil => exact absurd rfl hne
  | cons l ls =>
    have hl := h l (List.mem_cons_self ..)
    have hs := fun k hk => h k (List.mem_cons_of_mem l hk)
    unfold barL joinB
    rw [lines_tail n ls l hl.noNl hs, List.map_cons, hl.self, List.map_map]
    congr 1
    have : ∀ (ms : List (List UInt8)), (∀ m ∈ ms, Bare m) → ms.map (bareB ∘ fun m => if m = [] then [] else List.replicate n 32 ++ m) = ms := by
      intro ms
      induction ms with
      | nil => intro _; rfl
      | cons m ms ih =>
        intro hm
        rw [List.map_cons, ih (fun k hk => hm k (List.mem_cons_of_mem m hk))]
        congr 1
        show bareB (if m = [] then [] else List.replicate n 32 ++ m) = m
        split
        · rename_i e
          rw [e]
          rfl
        · rename_i e
          exact (hm m (List.mem_cons_self ..)).padded e n
    exact this ls hs
theorem barL_ne (x : List UInt8) : barL x ≠ [] := by
  unfold barL
  intro h
  exact linesB_ne x (List.map_eq_nil_iff.1 h)
/-- Laid anew, a text has the same lines; laid anew once more it does not change. -/
theorem barL_tidy (n : Nat) (x : List UInt8) : barL (tidyB n x) = barL x := barL_join n _ (barL_ne x) (barL_bare x)
theorem tidy_tidy (n m : Nat) (x : List UInt8) : tidyB n (tidyB m x) = tidyB n x := by
  unfold tidyB
  rw [show joinB m (barL x) = tidyB m x from rfl, barL_tidy]
end Go.Proofs.YtcbjcgbfdniieaaDoor.Not
