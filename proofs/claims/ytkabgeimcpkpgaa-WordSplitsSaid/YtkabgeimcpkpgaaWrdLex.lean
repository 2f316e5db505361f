/-
  Which word a row of bytes begins with: its kind, its end, and its last point; that this is told by the word's own bytes and by what follows; the parts of a qualified word. No program is run here.
-/
import Derived.Test.YtkabgeimcpkpgaaWrdMath
namespace Go.Proofs.Ytkabgeimcpkpgaa.Wrd
open Go.Lib Gly

def nameB (c : Int) : Bool := classI c == 2 || classI c == 3 || classI c == 4 || c == 39
def symP (c : Int) : Bool := classI c == 5
def bts (L : List UInt8) : ByteArray := ⟨L.toArray⟩
def wordsL : List (List UInt8) := [[95], [99, 97, 115, 101], [99, 108, 97, 115, 115], [100, 97, 116, 97], [100, 101, 102, 97, 117, 108, 116], [100, 101, 114, 105, 118, 105, 110, 103], [100, 111], [101, 108, 115, 101], [102, 111, 114, 101, 105, 103, 110], [105, 102], [105, 109, 112, 111, 114, 116], [105, 110], [105, 110, 102, 105, 120], [105, 110, 102, 105, 120, 108], [105, 110, 102, 105, 120, 114], [105, 110, 115, 116, 97, 110, 99, 101], [108, 101, 116], [109, 111, 100, 117, 108, 101], [110, 101, 119, 116, 121, 112, 101], [111, 102], [116, 104, 101, 110], [116, 121, 112, 101], [119, 104, 101, 114, 101]]
def marksL : List (List UInt8) := [[46, 46], [58], [58, 58], [61], [92], [124], [60, 45], [45, 62], [64], [126], [61, 62]]
def resB (b : ByteArray) : Bool := wordsL.any fun x => b.data.toList == x
def markB (b : ByteArray) : Bool := marksL.any fun x => b.data.toList == x
def byte0 (b : ByteArray) : Nat := (b.data.toList.getD 0 0).toNat
def symK (b : ByteArray) : Int := if markB b = true then 10 else if byte0 b = 58 then 6 else 5
def smallK (b : ByteArray) : Int := if resB b = true then 9 else 1

/-- The word that a row begins with, points apart: its kind and its length. -/
def part (L : List UInt8) : Int × Nat :=
  if L = [] then (0, 0)
  else if classI (rn L) = 2 then (smallK (bts (L.take (run nameB L))), run nameB L)
  else if classI (rn L) = 3 then (2, run nameB L)
  else if classI (rn L) = 5 then (symK (bts (L.take (run symP L))), run symP L)
  else if classI (rn L) = 6 then (15, wd L)
  else (0, 0)
def qual (k : Int) : Int := if k = 1 then 3 else if k = 2 then 4 else if k = 5 then 7 else if k = 6 then 8 else 0
/-- What a point and the word behind it make of an upper-case name ahead: kind and length, of the point too. -/
def more (R : List UInt8) : Int × Nat := if R ≠ [] ∧ R.getD 0 0 = 46 ∧ qual (part (R.drop 1)).1 ≠ 0 then (qual (part (R.drop 1)).1, 1 + (part (R.drop 1)).2) else (0, 0)
def grow : Nat → List UInt8 → Int → Nat → Nat → Int × Nat × Nat
  | 0, _, k, n, p => (k, n, p)
  | f + 1, L, k, n, p => if (k = 2 ∨ k = 4) ∧ (more (L.drop n)).1 ≠ 0 then grow f L (more (L.drop n)).1 (n + (more (L.drop n)).2) n else (k, n, p)
def scan (L : List UInt8) : Int × Nat × Nat := grow L.length L (part L).1 (part L).2 0

theorem cls_bad : nameB 65533 = false ∧ symP 65533 = false := by decide +kernel
theorem cls_blank : nameB 32 = false ∧ symP 32 = false := by decide +kernel
theorem cls_point : nameB 46 = false := by decide +kernel
theorem name_of (c : Int) (h : classI c = 2 ∨ classI c = 3) : nameB c = true := by
  unfold nameB
  rcases h with h | h <;> rw [h] <;> rfl
theorem sym_of (c : Int) (h : classI c = 5) : symP c = true := by
  unfold symP
  rw [h]
  rfl
theorem rn_ascii (b : UInt8) (t : List UInt8) (h : b.toNat < 128) : rn (b :: t) = ((b.toNat : Nat) : Int) ∧ wd (b :: t) = 1 := by
  unfold rn wd
  rw [decodeL_N, show (b :: t).getD 0 0 = b from rfl, decodeN_ascii _ _ _ _ _ h]
  exact ⟨rfl, rfl⟩
theorem ascii_rn (L : List UInt8) (h : rn L < 128) : wd L = 1 ∧ ((L.getD 0 0).toNat : Int) = rn L := by
  unfold rn wd at *
  rw [decodeL_N] at *
  rcases decodeN_shape L.length (L.getD 0 0).toNat (L.getD 1 0).toNat (L.getD 2 0).toNat (L.getD 3 0).toNat with ⟨c, e⟩ | ⟨p1, p2, p3, cv, e⟩ | ⟨p1, p2, p3, p4, cv, cs, e⟩ | ⟨p1, p2, p3, p4, p5, cv, cw, e⟩ | e
  all_goals rw [e] at h ⊢
  all_goals dsimp only at h ⊢
  · exact ⟨rfl, rfl⟩
  all_goals (exfalso; omega)
theorem spec_ascii (c : Int) (h : classI c = 6) : c < 128 := by
  by_cases q : specB c = true
  · unfold specB at q
    simp at q
    omega
  · exfalso
    rw [Bool.not_eq_true] at q
    unfold classI at h
    simp only [q, Bool.false_eq_true, if_false] at h
    repeat' split at h
    all_goals exact absurd h (by decide)

theorem smallK_cases (b : ByteArray) : smallK b = 9 ∨ smallK b = 1 := by
  unfold smallK
  split
  · exact .inl rfl
  · exact .inr rfl
theorem symK_cases (b : ByteArray) : symK b = 10 ∨ symK b = 6 ∨ symK b = 5 := by
  unfold symK
  repeat' split
  · exact .inl rfl
  · exact .inr (.inl rfl)
  · exact .inr (.inr rfl)
/-- What part may say. -/
theorem part_cases (L : List UInt8) :
    (part L = (0, 0) ∧ (L = [] ∨ (classI (rn L) ≠ 2 ∧ classI (rn L) ≠ 3 ∧ classI (rn L) ≠ 5 ∧ classI (rn L) ≠ 6))) ∨
    (L ≠ [] ∧ classI (rn L) = 2 ∧ part L = (smallK (bts (L.take (run nameB L))), run nameB L)) ∨
    (L ≠ [] ∧ classI (rn L) = 3 ∧ part L = (2, run nameB L)) ∨
    (L ≠ [] ∧ classI (rn L) = 5 ∧ part L = (symK (bts (L.take (run symP L))), run symP L)) ∨
    (L ≠ [] ∧ classI (rn L) = 6 ∧ part L = (15, wd L)) := by
  by_cases h0 : L = []
  · exact .inl ⟨by unfold part; rw [if_pos h0], .inl h0⟩
  by_cases h1 : classI (rn L) = 2
  · exact .inr (.inl ⟨h0, h1, by unfold part; rw [if_neg h0, if_pos h1]⟩)
  by_cases h2 : classI (rn L) = 3
  · exact .inr (.inr (.inl ⟨h0, h2, by unfold part; rw [if_neg h0, if_neg h1, if_pos h2]⟩))
  by_cases h3 : classI (rn L) = 5
  · exact .inr (.inr (.inr (.inl ⟨h0, h3, by unfold part; rw [if_neg h0, if_neg h1, if_neg h2, if_pos h3]⟩)))
  by_cases h4 : classI (rn L) = 6
  · exact .inr (.inr (.inr (.inr ⟨h0, h4, by unfold part; rw [if_neg h0, if_neg h1, if_neg h2, if_neg h3, if_pos h4]⟩)))
  · exact .inl ⟨by unfold part; rw [if_neg h0, if_neg h1, if_neg h2, if_neg h3, if_neg h4], .inr ⟨h1, h2, h3, h4⟩⟩
theorem part_le (L : List UInt8) : (part L).2 ≤ L.length := by
  have a := run_le nameB L.length L (Nat.le_refl _)
  have b := run_le symP L.length L (Nat.le_refl _)
  rcases part_cases L with ⟨e, _⟩ | ⟨_, _, e⟩ | ⟨_, _, e⟩ | ⟨_, _, e⟩ | ⟨h, _, e⟩
  all_goals rw [e]
  · exact Nat.zero_le _
  · exact a
  · exact a
  · exact b
  · exact wd_le L h
theorem part_pos (L : List UInt8) (h : (part L).1 ≠ 0) : 1 ≤ (part L).2 := by
  have hw := wd_pos L
  rcases part_cases L with ⟨e, _⟩ | ⟨h0, c, e⟩ | ⟨h0, c, e⟩ | ⟨h0, c, e⟩ | ⟨h0, _, e⟩
  all_goals rw [e] at h ⊢
  · exact absurd rfl h
  · exact Nat.le_trans hw (run_pos nameB L h0 (name_of _ (.inl c)))
  · exact Nat.le_trans hw (run_pos nameB L h0 (name_of _ (.inr c)))
  · exact Nat.le_trans hw (run_pos symP L h0 (sym_of _ c))
  · exact hw
theorem part_none (L : List UInt8) (h : (part L).1 = 0) : part L = (0, 0) := by
  rcases part_cases L with ⟨e, _⟩ | ⟨h0, c, e⟩ | ⟨h0, c, e⟩ | ⟨h0, c, e⟩ | ⟨h0, _, e⟩
  · exact e
  all_goals rw [e] at h
  all_goals dsimp only at h
  · rcases smallK_cases (bts (L.take (run nameB L))) with q | q <;> (rw [q] at h; cases h)
  · cases h
  · rcases symK_cases (bts (L.take (run symP L))) with q | q | q <;> (rw [q] at h; cases h)
  · cases h
theorem part_kind (L : List UInt8) : (part L).1 = 0 ∨ (part L).1 = 1 ∨ (part L).1 = 2 ∨ (part L).1 = 5 ∨ (part L).1 = 6 ∨ (part L).1 = 9 ∨ (part L).1 = 10 ∨ (part L).1 = 15 := by
  rcases part_cases L with ⟨e, _⟩ | ⟨h0, c, e⟩ | ⟨h0, c, e⟩ | ⟨h0, c, e⟩ | ⟨h0, _, e⟩
  all_goals rw [e]
  all_goals dsimp only
  · omega
  · rcases smallK_cases (bts (L.take (run nameB L))) with q | q <;> (rw [q]; omega)
  · omega
  · rcases symK_cases (bts (L.take (run symP L))) with q | q | q <;> (rw [q]; omega)
  · omega
theorem part_same (L M : List UInt8) (hk : (part L).1 ≠ 0) (ht : M.take (part L).2 = L.take (part L).2) (hl : (part L).2 ≤ M.length)
    (hs : M.drop (part L).2 = [] ∨ (nameB (rn (M.drop (part L).2)) = false ∧ ((part L).1 = 2 ∨ symP (rn (M.drop (part L).2)) = false))) : part M = part L := by
  have hpos := part_pos L hk
  have hw := wd_pos L
  have base : ∀ n, wd L ≤ n → M.take n = L.take n → n ≤ M.length → rn L ≠ 65533 → rn M = rn L ∧ wd M = wd L ∧ M ≠ [] := by
    intro n h1 h2 h3 hb
    have htw : M.take (wd L) = L.take (wd L) := by
      have := congrArg (List.take (wd L)) h2
      rw [List.take_take, List.take_take, Nat.min_eq_left h1] at this
      exact this
    have hd := dec_same L M hb (by omega) htw
    refine ⟨by unfold rn; rw [hd], by unfold wd; rw [hd], ?_⟩
    intro e
    rw [e] at h3
    simp at h3
    omega
  have bad : ∀ k : Int, k ≠ 8 → classI (rn L) = k → rn L ≠ 65533 := by
    intro k hk he h
    rw [h] at he
    have : classI 65533 = 8 := by decide +kernel
    omega
  rcases part_cases L with ⟨e, _⟩ | ⟨h0, c, e⟩ | ⟨h0, c, e⟩ | ⟨h0, c, e⟩ | ⟨h0, c, e⟩
  · rw [e] at hk
    exact absurd rfl hk
  · rw [e] at ht hl hs ⊢
    dsimp only at ht hl hs
    have hr := run_pos nameB L h0 (name_of _ (.inl c))
    obtain ⟨b1, b2, b3⟩ := base _ hr ht hl (bad 2 (by decide) c)
    have hR : run nameB M = run nameB L := run_same nameB cls_bad.1 _ L M (Nat.le_refl _) ht hl (hs.imp id And.left)
    unfold part
    rw [if_neg b3, b1, if_pos c, hR, ht]
  · rw [e] at ht hl hs ⊢
    dsimp only at ht hl hs
    have hr := run_pos nameB L h0 (name_of _ (.inr c))
    obtain ⟨b1, b2, b3⟩ := base _ hr ht hl (bad 3 (by decide) c)
    have hR : run nameB M = run nameB L := run_same nameB cls_bad.1 _ L M (Nat.le_refl _) ht hl (hs.imp id And.left)
    unfold part
    rw [if_neg b3, b1, if_neg (by omega), if_pos c, hR]
  · rw [e] at ht hl hs ⊢
    dsimp only at ht hl hs
    have hr := run_pos symP L h0 (sym_of _ c)
    obtain ⟨b1, b2, b3⟩ := base _ hr ht hl (bad 5 (by decide) c)
    have hR : run symP M = run symP L := by
      refine run_same symP cls_bad.2 _ L M (Nat.le_refl _) ht hl (hs.imp id fun q => ?_)
      rcases q.2 with z | z
      · rcases symK_cases (bts (L.take (run symP L))) with y | y | y <;> (rw [y] at z; cases z)
      · exact z
    unfold part
    rw [if_neg b3, b1, if_neg (by omega), if_neg (by omega), if_pos c, hR, ht]
  · rw [e] at ht hl hs ⊢
    dsimp only at ht hl hs
    obtain ⟨b1, b2, b3⟩ := base _ (Nat.le_refl _) ht hl (bad 6 (by decide) c)
    unfold part
    rw [if_neg b3, b1, if_neg (by omega), if_neg (by omega), if_neg (by omega), if_pos c, b2]

theorem more_cases (R : List UInt8) : (more R = (0, 0) ∧ (R = [] ∨ R.getD 0 0 ≠ 46 ∨ qual (part (R.drop 1)).1 = 0)) ∨ (R ≠ [] ∧ R.getD 0 0 = 46 ∧ qual (part (R.drop 1)).1 ≠ 0 ∧ more R = (qual (part (R.drop 1)).1, 1 + (part (R.drop 1)).2)) := by
  by_cases h : R ≠ [] ∧ R.getD 0 0 = 46 ∧ qual (part (R.drop 1)).1 ≠ 0
  · exact .inr ⟨h.1, h.2.1, h.2.2, by unfold more; rw [if_pos h]⟩
  · refine .inl ⟨by unfold more; rw [if_neg h], ?_⟩
    by_cases a : R = []
    · exact .inl a
    by_cases b : R.getD 0 0 = 46
    · right
      right
      by_cases c : qual (part (R.drop 1)).1 = 0
      · exact c
      · exact absurd ⟨a, b, c⟩ h
    · exact .inr (.inl b)
theorem more_pos (R : List UInt8) (h : (more R).1 ≠ 0) : 2 ≤ (more R).2 ∧ (more R).2 ≤ R.length ∧ R ≠ [] := by
  rcases more_cases R with ⟨e, _⟩ | ⟨a, b, c, e⟩
  · rw [e] at h
    exact absurd rfl h
  · rw [e]
    dsimp only
    have hq : (part (R.drop 1)).1 ≠ 0 := by
      intro z
      rw [z] at c
      exact c rfl
    have h1 := part_pos _ hq
    have h2 := part_le (R.drop 1)
    rw [List.length_drop] at h2
    have h3 : 0 < R.length := List.length_pos_iff.2 a
    exact ⟨by omega, by omega, a⟩
theorem more_nil : (more []).1 = 0 := by
  rcases more_cases [] with ⟨e, _⟩ | ⟨a, _⟩
  · rw [e]
  · exact absurd rfl a
theorem qual_kind (k : Int) : qual k = 0 ∨ qual k = 3 ∨ qual k = 4 ∨ qual k = 7 ∨ qual k = 8 := by
  unfold qual
  repeat' split
  all_goals omega
theorem more_kind (R : List UInt8) : (more R).1 = 0 ∨ (more R).1 = 3 ∨ (more R).1 = 4 ∨ (more R).1 = 7 ∨ (more R).1 = 8 := by
  rcases more_cases R with ⟨e, _⟩ | ⟨a, b, c, e⟩
  · rw [e]
    exact .inl rfl
  · rw [e]
    exact qual_kind _

/-- What has been found of a word, part by part. -/
inductive Lex (L : List UInt8) : Int → Nat → Nat → Prop
  | first (h : (part L).1 ≠ 0) : Lex L (part L).1 (part L).2 0
  | more {k : Int} {n p : Nat} (h : Lex L k n p) (hk : k = 2 ∨ k = 4) (hm : (more (L.drop n)).1 ≠ 0) : Lex L (more (L.drop n)).1 (n + (more (L.drop n)).2) n
theorem Lex.bd {L : List UInt8} {k : Int} {n p : Nat} (h : Lex L k n p) : k ≠ 0 ∧ 1 ≤ n ∧ n ≤ L.length ∧ (k = 3 ∨ k = 4 ∨ k = 7 ∨ k = 8 → p < n ∧ 1 ≤ p) ∧ (k = 1 ∨ k = 2 ∨ k = 5 ∨ k = 6 ∨ k = 9 ∨ k = 10 ∨ k = 15 → p = 0) := by
  induction h with
  | first h =>
    have := part_kind L
    exact ⟨h, part_pos L h, part_le L, fun q => by omega, fun _ => rfl⟩
  | more h hk hm ih =>
    rename_i k n p
    obtain ⟨a, b, c⟩ := more_pos _ hm
    rw [List.length_drop] at b
    have := more_kind (L.drop n)
    exact ⟨hm, by omega, by omega, fun _ => by omega, fun q => by omega⟩
theorem grow_final (f : Nat) (L : List UInt8) (k : Int) (n p : Nat) (h : ¬ (k = 2 ∨ k = 4) ∨ (more (L.drop n)).1 = 0) : grow f L k n p = (k, n, p) := by
  cases f with
  | zero => rfl
  | succ f =>
    rw [grow, if_neg]
    rintro ⟨a, b⟩
    rcases h with h | h
    · exact h a
    · exact b h
theorem grow_next (f : Nat) (L : List UInt8) (k : Int) (n p : Nat) (hk : k = 2 ∨ k = 4) (hm : (more (L.drop n)).1 ≠ 0) : grow (f + 1) L k n p = grow f L (more (L.drop n)).1 (n + (more (L.drop n)).2) n := by
  rw [grow, if_pos ⟨hk, hm⟩]
theorem more_end (L : List UInt8) (n : Nat) (h : L.length ≤ n) : (more (L.drop n)).1 = 0 := by
  rw [List.drop_eq_nil_of_le h]
  exact more_nil
theorem Lex.reach {L : List UInt8} {k : Int} {n p : Nat} (h : Lex L k n p) : ∃ f, L.length ≤ n + f ∧ scan L = grow f L k n p := by
  induction h with
  | first h => exact ⟨L.length, by omega, rfl⟩
  | more h hk hm ih =>
    rename_i k n p
    obtain ⟨f, hf, e⟩ := ih
    cases f with
    | zero => exact absurd (more_end L n (by omega)) hm
    | succ f =>
      obtain ⟨a, _, _⟩ := more_pos _ hm
      exact ⟨f, by omega, by rw [e, grow_next f L k n p hk hm]⟩
theorem scan_of_lex {L : List UInt8} {k : Int} {n p : Nat} (h : Lex L k n p) (hd : ¬ (k = 2 ∨ k = 4) ∨ (more (L.drop n)).1 = 0) : scan L = (k, n, p) := by
  obtain ⟨f, _, e⟩ := h.reach
  rw [e, grow_final f L k n p hd]
theorem grow_lex (L : List UInt8) : ∀ (f : Nat) (k : Int) (n p : Nat), L.length ≤ n + f → Lex L k n p →
    Lex L (grow f L k n p).1 (grow f L k n p).2.1 (grow f L k n p).2.2 ∧ (¬ ((grow f L k n p).1 = 2 ∨ (grow f L k n p).1 = 4) ∨ (more (L.drop (grow f L k n p).2.1)).1 = 0)
  | 0, k, n, p, hf, h => ⟨h, .inr (more_end L n (by omega))⟩
  | f + 1, k, n, p, hf, h => by
    by_cases q : (k = 2 ∨ k = 4) ∧ (Wrd.more (L.drop n)).1 ≠ 0
    · rw [grow_next f L k n p q.1 q.2]
      obtain ⟨a, _, _⟩ := more_pos _ q.2
      exact grow_lex L f _ _ _ (by omega) (Lex.more h q.1 q.2)
    · have q' : ¬ (k = 2 ∨ k = 4) ∨ (Wrd.more (L.drop n)).1 = 0 := by
        by_cases a : k = 2 ∨ k = 4
        · right
          by_cases b : (Wrd.more (L.drop n)).1 = 0
          · exact b
          · exact absurd ⟨a, b⟩ q
        · exact .inl a
      rw [grow_final _ L k n p q']
      exact ⟨h, q'⟩
theorem scan_none (L : List UInt8) (h : (part L).1 = 0) : scan L = (0, 0, 0) := by
  unfold scan
  rw [part_none L h, grow_final _ _ _ _ _ (.inl (by decide))]
theorem scan_lex (L : List UInt8) (h : (part L).1 ≠ 0) : Lex L (scan L).1 (scan L).2.1 (scan L).2.2 ∧ (¬ ((scan L).1 = 2 ∨ (scan L).1 = 4) ∨ (more (L.drop (scan L).2.1)).1 = 0) :=
  grow_lex L L.length _ _ _ (by omega) (Lex.first h)
theorem scan_cases (L : List UInt8) : (scan L = (0, 0, 0) ∧ (part L).1 = 0) ∨ (Lex L (scan L).1 (scan L).2.1 (scan L).2.2 ∧ (¬ ((scan L).1 = 2 ∨ (scan L).1 = 4) ∨ (more (L.drop (scan L).2.1)).1 = 0)) := by
  by_cases h : (part L).1 = 0
  · exact .inl ⟨scan_none L h, h⟩
  · exact .inr (scan_lex L h)

theorem take_le_of {M L : List UInt8} {n m : Nat} (h : M.take n = L.take n) (hm : m ≤ n) : M.take m = L.take m := by
  have := congrArg (List.take m) h
  rw [List.take_take, List.take_take, Nat.min_eq_left hm] at this
  exact this
theorem drop_take_of {M L : List UInt8} {n m k : Nat} (h : M.take n = L.take n) (hm : m + k ≤ n) : (M.drop m).take k = (L.drop m).take k := by
  have := congrArg (List.drop m) (take_le_of h hm)
  rw [List.drop_take, List.drop_take, Nat.add_sub_cancel_left] at this
  exact this
theorem getD_take {A : List UInt8} {k i : Nat} (h : i < k) : A.getD i 0 = (A.take k).getD i 0 := by
  rw [getD_takeU _ _ _ h]
theorem ne_of_head {R : List UInt8} (h : R.getD 0 0 = 46) : R ≠ [] := by
  intro e
  rw [e] at h
  cases h
theorem point_head {R : List UInt8} (h : R.getD 0 0 = 46) : rn R = 46 := by
  cases R with
  | nil => cases h
  | cons b t =>
    obtain rfl : b = 46 := h
    exact (rn_ascii 46 t (by decide)).1
/-- What has been found hangs on its own bytes, and on what follows. -/
theorem Lex.same {L M : List UInt8} {k : Int} {n p : Nat} (h : Lex L k n p) : M.take n = L.take n → n ≤ M.length →
    (M.drop n = [] ∨ (nameB (rn (M.drop n)) = false ∧ (k = 2 ∨ k = 4 ∨ symP (rn (M.drop n)) = false))) → Lex M k n p := by
  induction h with
  | first h =>
    intro ht hl hs
    have e := part_same L M h ht hl (hs.imp id fun q => ⟨q.1, by
      rcases q.2 with z | z | z
      · exact .inl z
      · have := part_kind L
        omega
      · exact .inr z⟩)
    rw [← e]
    exact Lex.first (by rw [e]; exact h)
  | more h hk hm ih =>
    rename_i k n p
    intro ht hl hs
    have hbd := h.bd
    obtain ⟨a, b, c⟩ := more_pos _ hm
    rcases more_cases (L.drop n) with ⟨e, _⟩ | ⟨d0, d1, d2, e⟩
    · rw [e] at hm
      exact absurd rfl hm
    have hd : (M.drop n).take (Wrd.more (L.drop n)).2 = (L.drop n).take (Wrd.more (L.drop n)).2 := drop_take_of ht (Nat.le_refl _)
    have hM46 : (M.drop n).getD 0 0 = 46 := by
      rw [getD_take (k := (Wrd.more (L.drop n)).2) (by omega), hd, ← getD_take (by omega)]
      exact d1
    have hprev := ih (take_le_of ht (by omega)) (by omega) (.inr ⟨by rw [point_head hM46]; exact cls_point, hk.imp id Or.inl⟩)
    have hq : (part ((L.drop n).drop 1)).1 ≠ 0 := by
      intro z
      rw [z] at d2
      exact d2 rfl
    have hlen : (Wrd.more (L.drop n)).2 = 1 + (part ((L.drop n).drop 1)).2 := by rw [e]
    have hp : part ((M.drop n).drop 1) = part ((L.drop n).drop 1) := by
      refine part_same _ _ hq ?_ ?_ ?_
      · have := drop_take_of (m := 1) (k := (part ((L.drop n).drop 1)).2) hd (by omega)
        exact this
      · rw [List.length_drop, List.length_drop]
        omega
      · rw [List.drop_drop, List.drop_drop, show n + (1 + (part ((L.drop n).drop 1)).2) = n + (Wrd.more (L.drop n)).2 from by rw [hlen]]
        refine hs.imp id fun q => ⟨q.1, ?_⟩
        rcases q.2 with z | z | z
        · have := more_kind (L.drop n)
          omega
        · left
          rw [e] at z
          dsimp only at z
          unfold qual at z
          repeat' split at z
          all_goals omega
        · exact .inr z
    have hMm : Wrd.more (M.drop n) = Wrd.more (L.drop n) := by
      rcases more_cases (M.drop n) with ⟨_, z⟩ | ⟨_, _, _, z⟩
      · rw [hp] at z
        rcases z with z | z | z
        · exact absurd z (ne_of_head hM46)
        · exact absurd hM46 z
        · exact absurd z d2
      · rw [z, e, hp]
    rw [← hMm]
    exact Lex.more hprev hk (by rw [hMm]; exact hm)

/-- A word is the same word wherever it stands, if nothing follows it, or what neither a name nor an operator goes on with. -/
theorem scan_same (L M : List UInt8) (hk : (scan L).1 ≠ 0) (ht : M.take (scan L).2.1 = L.take (scan L).2.1) (hl : (scan L).2.1 ≤ M.length)
    (hs : M.drop (scan L).2.1 = [] ∨ (nameB (rn (M.drop (scan L).2.1)) = false ∧ symP (rn (M.drop (scan L).2.1)) = false)) : scan M = scan L := by
  rcases scan_cases L with ⟨e, _⟩ | ⟨hx, hd⟩
  · rw [e] at hk
    exact absurd rfl hk
  have hM := hx.same ht hl (hs.imp id fun q => ⟨q.1, .inr (.inr q.2)⟩)
  have := scan_of_lex hM ?_
  · rw [this]
  · right
    rcases hs with z | z
    · rw [z]
      exact more_nil
    · rcases more_cases (M.drop (scan L).2.1) with ⟨e, _⟩ | ⟨_, d1, _⟩
      · rw [e]
      · have := point_head d1
        rw [this] at z
        have : symP 46 = true := by decide +kernel
        rw [this] at z
        exact absurd z.2 (by decide)
/-- By itself. -/
theorem scan_alone (L : List UInt8) (hk : (scan L).1 ≠ 0) : scan (L.take (scan L).2.1) = scan L := by
  rcases scan_cases L with ⟨e, _⟩ | ⟨hx, hd⟩
  · rw [e] at hk
    exact absurd rfl hk
  have hb := hx.bd
  refine scan_same L _ hk ?_ ?_ ?_
  · rw [List.take_take, Nat.min_self]
  · rw [List.length_take]
    omega
  · left
    rw [List.drop_take, Nat.sub_self, List.take_zero]
/-- With a blank behind. -/
theorem scan_blank (L t : List UInt8) (hk : (scan L).1 ≠ 0) : scan (L.take (scan L).2.1 ++ 32 :: t) = scan L := by
  rcases scan_cases L with ⟨e, _⟩ | ⟨hx, hd⟩
  · rw [e] at hk
    exact absurd rfl hk
  have hb := hx.bd
  have hlen : (L.take (scan L).2.1).length = (scan L).2.1 := by
    rw [List.length_take]
    omega
  refine scan_same L _ hk ?_ ?_ ?_
  · rw [List.take_append_of_le_length (by omega), List.take_take, Nat.min_self]
  · rw [List.length_append]
    omega
  · right
    rw [List.drop_append_of_le_length (by omega), List.drop_of_length_le (by omega), List.nil_append, (rn_ascii 32 t (by decide)).1]
    exact cls_blank
/-- The parts of a qualified word. -/
theorem scan_parts (L : List UInt8) (hn : (scan L).2.1 = L.length) (hk : (scan L).1 = 3 ∨ (scan L).1 = 4 ∨ (scan L).1 = 7 ∨ (scan L).1 = 8) :
    ∃ (k k2 : Int) (p' : Nat), 1 ≤ (scan L).2.2 ∧ (scan L).2.2 < L.length ∧ (k = 2 ∨ k = 4) ∧ scan (L.take (scan L).2.2) = (k, (scan L).2.2, p') ∧ L.getD (scan L).2.2 0 = 46 ∧
      scan (L.drop ((scan L).2.2 + 1)) = (k2, L.length - ((scan L).2.2 + 1), 0) ∧ qual k2 = (scan L).1 ∧ k2 ≠ 0 := by
  rcases scan_cases L with ⟨e, _⟩ | ⟨hx, hd⟩
  · rw [e] at hk
    dsimp only at hk
    omega
  generalize scan L = r at *
  obtain ⟨k, n, p⟩ := r
  dsimp only at *
  cases hx with
  | first h =>
    have := part_kind L
    omega
  | more h hk' hm =>
    rename_i k' p'
    have hb := h.bd
    obtain ⟨a, b, c⟩ := more_pos _ hm
    rcases more_cases (L.drop p) with ⟨e, _⟩ | ⟨d0, d1, d2, e⟩
    · rw [e] at hm
      exact absurd rfl hm
    have hlt : p < L.length := by
      rw [List.length_drop] at b
      omega
    have hlen : (Wrd.more (L.drop p)).2 = 1 + (part ((L.drop p).drop 1)).2 := by rw [e]
    have hq : (part ((L.drop p).drop 1)).1 ≠ 0 := by
      intro z
      rw [z] at d2
      exact d2 rfl
    refine ⟨k', (part ((L.drop p).drop 1)).1, p', hb.2.1, hlt, hk', ?_, ?_, ?_, ?_, hq⟩
    · have hM : Lex (L.take p) k' p p' := h.same (by rw [List.take_take, Nat.min_self]) (by rw [List.length_take]; omega) (.inl (by rw [List.drop_take, Nat.sub_self, List.take_zero]))
      exact scan_of_lex hM (.inr (by rw [List.drop_take, Nat.sub_self, List.take_zero]; exact more_nil))
    · rw [← d1, getD_dropU, Nat.add_zero]
    · rw [← List.drop_drop]
      have h1 := Lex.first hq
      have e2 : (part ((L.drop p).drop 1)).2 = L.length - (p + 1) := by omega
      have := scan_of_lex h1 (.inr (more_end _ _ (by rw [List.length_drop, List.length_drop]; omega)))
      rw [this, e2]
    · rw [e]
end Go.Proofs.Ytkabgeimcpkpgaa.Wrd
