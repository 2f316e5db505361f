/-
  Words as rows of bytes: the runes that stand first, how far those of one kind go, which word begins a row; that what a row begins with hangs on the bytes of that word and on what follows them alone. No program is run here.
-/
import Derived.Test.YtmgclgojmckfhaaGreatDoorZGlyA
import Derived.Lib.MapLaws
import Derived.Lib.ItoaNum
namespace Go.Proofs.YtmgclgojmckfhaaGreatDoor.Wrd
open Go.Lib Gly

theorem decodeN_piece (n b0 b1 b2 b3 c1 c2 c3 : Nat) (e1 : 1 < (Lib.decodeN n b0 b1 b2 b3).2 → c1 = b1) (e2 : 2 < (Lib.decodeN n b0 b1 b2 b3).2 → c2 = b2) (e3 : 3 < (Lib.decodeN n b0 b1 b2 b3).2 → c3 = b3) (m : Nat) (hm : (Lib.decodeN n b0 b1 b2 b3).2 ≤ m) (good : Lib.decodeN n b0 b1 b2 b3 ≠ (65533, 1)) :
    Lib.decodeN m b0 c1 c2 c3 = Lib.decodeN n b0 b1 b2 b3 := by
  rcases Lib.decodeN_shape n b0 b1 b2 b3 with ⟨c, e⟩ | ⟨p1, p2, p3, cv, e⟩ | ⟨p1, p2, p3, p4, cv, cs, e⟩ | ⟨p1, p2, p3, p4, p5, cv, cw, e⟩ | e
  · rw [e, Lib.decodeN_ascii _ _ _ _ _ c]
  · rw [e] at e1 e2 e3 hm ⊢
    dsimp only at hm
    obtain rfl := e1 (by dsimp only; omega)
    unfold Lib.decodeN
    repeat' split
    all_goals first | (exfalso; omega) | rfl
  · rw [e] at e1 e2 e3 hm ⊢
    dsimp only at hm
    obtain rfl := e1 (by dsimp only; omega)
    obtain rfl := e2 (by dsimp only; omega)
    unfold Lib.decodeN
    repeat' split
    all_goals first | (exfalso; omega) | rfl
  · rw [e] at e1 e2 e3 hm ⊢
    dsimp only at hm
    obtain rfl := e1 (by dsimp only; omega)
    obtain rfl := e2 (by dsimp only; omega)
    obtain rfl := e3 (by dsimp only; omega)
    unfold Lib.decodeN
    repeat' split
    all_goals first | (exfalso; omega) | rfl
  · exact absurd e good

/-- The rune that a row of bytes begins with, and its width. -/
def rn (L : List UInt8) : Int := (((decodeL L).1 : Nat) : Int)
def wd (L : List UInt8) : Nat := (decodeL L).2
theorem wd_pos (L : List UInt8) : 1 ≤ wd L := decodeL_width L
theorem wd_le (L : List UInt8) (h : L ≠ []) : wd L ≤ L.length := decodeL_le L h

/-- A rune that is one hangs on its own bytes alone. -/
theorem dec_same (L M : List UInt8) (good : rn L ≠ 65533) (hM : wd L ≤ M.length) (h : M.take (wd L) = L.take (wd L)) : decodeL M = decodeL L := by
  have hw := wd_pos L
  have hg : decodeL L ≠ (65533, 1) := by
    intro e
    apply good
    unfold rn
    rw [e]
    rfl
  have g : ∀ i, i < wd L → M.getD i 0 = L.getD i 0 := by
    intro i hi
    rw [← getD_takeU M (wd L) i hi, h, getD_takeU L (wd L) i hi]
  unfold wd at *
  rw [decodeL_N] at hg
  rw [decodeL_N L] at hM g hw
  rw [decodeL_N M, decodeL_N L, g 0 (by omega)]
  exact decodeN_piece _ _ _ _ _ _ _ _ (fun q => by rw [g 1 q]) (fun q => by rw [g 2 q]) (fun q => by rw [g 3 q]) _ hM hg

/-- How many bytes the runes of one kind have that a row begins with; f: more rounds than there are bytes. -/
def runG (P : Int → Bool) : Nat → List UInt8 → Nat
  | 0, _ => 0
  | f + 1, L => if L ≠ [] ∧ P (rn L) = true then wd L + runG P f (L.drop (wd L)) else 0
def run (P : Int → Bool) (L : List UInt8) : Nat := runG P L.length L
theorem runG_fuel (P : Int → Bool) : ∀ (f g : Nat) (L : List UInt8), L.length ≤ f → L.length ≤ g → runG P f L = runG P g L
  | 0, 0, _, _, _ => rfl
  | 0, g + 1, L, hf, _ => by
    obtain rfl : L = [] := List.eq_nil_of_length_eq_zero (by omega)
    simp [runG]
  | f + 1, 0, L, _, hg => by
    obtain rfl : L = [] := List.eq_nil_of_length_eq_zero (by omega)
    simp [runG]
  | f + 1, g + 1, L, hf, hg => by
    unfold runG
    split
    · rename_i h
      have hw := wd_pos L
      rw [runG_fuel P f g (L.drop (wd L)) (by rw [List.length_drop]; omega) (by rw [List.length_drop]; omega)]
    · rfl
theorem run_step (P : Int → Bool) (L : List UInt8) (hne : L ≠ []) (hp : P (rn L) = true) : run P L = wd L + run P (L.drop (wd L)) := by
  have hw := wd_pos L
  have hl : 0 < L.length := List.length_pos_iff.2 hne
  unfold run
  obtain ⟨f, hf⟩ : ∃ f, L.length = f + 1 := ⟨L.length - 1, by omega⟩
  rw [hf, runG, if_pos ⟨hne, hp⟩, runG_fuel P f (L.drop (wd L)).length _ (by rw [List.length_drop]; omega) (Nat.le_refl _)]
theorem run_stop (P : Int → Bool) (L : List UInt8) (h : L = [] ∨ P (rn L) = false) : run P L = 0 := by
  unfold run
  cases hl : L.length with
  | zero => rfl
  | succ f =>
    rw [runG, if_neg]
    rintro ⟨a, b⟩
    rcases h with h | h
    · exact a h
    · rw [h] at b
      cases b
theorem run_le (P : Int → Bool) : ∀ (n : Nat) (L : List UInt8), L.length ≤ n → run P L ≤ L.length := by
  intro n
  induction n with
  | zero =>
    intro L h
    obtain rfl : L = [] := List.eq_nil_of_length_eq_zero (by omega)
    rw [run_stop P [] (Or.inl rfl)]
    exact Nat.le_refl _
  | succ n ih =>
    intro L h
    by_cases hs : L = [] ∨ P (rn L) = false
    · rw [run_stop P L hs]
      omega
    · have hne : L ≠ [] := fun e => hs (Or.inl e)
      have hp : P (rn L) = true := by cases hq : P (rn L) with | true => rfl | false => exact absurd (Or.inr hq) hs
      have hw := wd_pos L
      have hx := wd_le L hne
      have := ih (L.drop (wd L)) (by rw [List.length_drop]; omega)
      rw [List.length_drop] at this
      rw [run_step P L hne hp]
      omega
theorem run_pos (P : Int → Bool) (L : List UInt8) (hne : L ≠ []) (hp : P (rn L) = true) : wd L ≤ run P L := by
  rw [run_step P L hne hp]
  omega
/-- Where a row of runes of one kind ends hangs on its own bytes, and on what follows. -/
theorem run_same (P : Int → Bool) (hP : P 65533 = false) : ∀ (n : Nat) (L M : List UInt8), L.length ≤ n → M.take (run P L) = L.take (run P L) → run P L ≤ M.length → (M.drop (run P L) = [] ∨ P (rn (M.drop (run P L))) = false) → run P M = run P L := by
  intro n
  induction n with
  | zero =>
    intro L M h _ _ hs
    obtain rfl : L = [] := List.eq_nil_of_length_eq_zero (by omega)
    have h0 : run P [] = 0 := run_stop P [] (Or.inl rfl)
    rw [h0] at hs ⊢
    exact run_stop P M hs
  | succ n ih =>
    intro L M h ht hl hs
    by_cases hz : L = [] ∨ P (rn L) = false
    · have h0 := run_stop P L hz
      rw [h0] at hs ⊢
      exact run_stop P M hs
    · have hne : L ≠ [] := fun e => hz (Or.inl e)
      have hp : P (rn L) = true := by cases hq : P (rn L) with | true => rfl | false => exact absurd (Or.inr hq) hz
      have hw := wd_pos L
      have hx := wd_le L hne
      have hst := run_step P L hne hp
      have hbad : rn L ≠ 65533 := by
        intro e
        rw [e, hP] at hp
        cases hp
      have htw : M.take (wd L) = L.take (wd L) := by
        have := congrArg (List.take (wd L)) ht
        rw [List.take_take, List.take_take, Nat.min_eq_left (by omega)] at this
        exact this
      have hd := dec_same L M hbad (by omega) htw
      have hwM : wd M = wd L := by unfold wd; rw [hd]
      have hrM : rn M = rn L := by unfold rn; rw [hd]
      have hneM : M ≠ [] := by
        intro e
        rw [e] at hl
        simp at hl
        omega
      rw [run_step P M hneM (by rw [hrM]; exact hp), hst, hwM]
      congr 1
      refine ih (L.drop (wd L)) (M.drop (wd L)) (by rw [List.length_drop]; omega) ?_ (by rw [List.length_drop]; omega) ?_
      · have := congrArg (List.drop (wd L)) ht
        rw [List.drop_take, List.drop_take, hst, Nat.add_sub_cancel_left] at this
        exact this
      · rw [List.drop_drop]
        rw [hst] at hs
        exact hs
end Go.Proofs.YtmgclgojmckfhaaGreatDoor.Wrd
/-
  Which word a row of bytes begins with: its kind, its end, and its last point; that this is told by the word's own bytes and by what follows; the parts of a qualified word. No program is run here.
-/
namespace Go.Proofs.YtmgclgojmckfhaaGreatDoor.Wrd
open Go.Lib Gly

def nameB (c : Int) : Bool := classI c == 2 || classI c == 3 || classI c == 4 || c == 39
def symP (c : Int) : Bool := classI c == 5
def bts (L : List UInt8) : ByteArray := ⟨L.toArray⟩
def wordsL : List (List UInt8) := [[95], [99, 97, 115, 101], [99, 108, 97, 115, 115], [100, 97, 116, 97], [100, 101, 102, 97, 117, 108, 116], [100, 101, 114, 105, 118, 105, 110, 103], [100, 111], [101, 108, 115, 101], [102, 111, 114, 101, 105, 103, 110], [105, 102], [105, 109, 112, 111, 114, 116], [105, 110], [105, 110, 102, 105, 120], [105, 110, 102, 105, 120, 108], [105, 110, 102, 105, 120, 114], [105, 110, 115, 116, 97, 110, 99, 101], [108, 101, 116], [109, 111, 100, 117, 108, 101], [110, 101, 119, 116, 121, 112, 101], [111, 102], [116, 104, 101, 110], [116, 121, 112, 101], [119, 104, 101, 114, 101]]
def marksL : List (List UInt8) := [[46, 46], [58], [58, 58], [61], [92], [124], [60, 45], [45, 62], [64], [126], [61, 62]]
def resB (b : ByteArray) : Bool := wordsL.any fun x => b.data.toList == x
def markB (b : ByteArray) : Bool := marksL.any fun x => b.data.toList == x
def byte0 (b : ByteArray) : Nat := (b.data.toList.getD 0 0).toNat
def symK (b : ByteArray) : Int := if markB b = true then 10 else if byte0 b = 58 then 6 else 5
def smallK (b : ByteArray) : Int := if resB b = true then 9 else 1

/-- The word that a row begins with, points apart: its kind and its length. -/
def part (L : List UInt8) : Int × Nat :=
  if L = [] then (0, 0)
  else if classI (rn L) = 2 then (smallK (bts (L.take (run nameB L))), run nameB L)
  else if classI (rn L) = 3 then (2, run nameB L)
  else if classI (rn L) = 5 then (symK (bts (L.take (run symP L))), run symP L)
  else if classI (rn L) = 6 then (15, wd L)
  else (0, 0)
def qual (k : Int) : Int := if k = 1 then 3 else if k = 2 then 4 else if k = 5 then 7 else if k = 6 then 8 else 0
/-- What a point and the word behind it make of an upper-case name ahead: kind and length, of the point too. -/
def more (R : List UInt8) : Int × Nat := if R ≠ [] ∧ R.getD 0 0 = 46 ∧ qual (part (R.drop 1)).1 ≠ 0 then (qual (part (R.drop 1)).1, 1 + (part (R.drop 1)).2) else (0, 0)
def grow : Nat → List UInt8 → Int → Nat → Nat → Int × Nat × Nat
  | 0, _, k, n, p => (k, n, p)
  | f + 1, L, k, n, p => if (k = 2 ∨ k = 4) ∧ (more (L.drop n)).1 ≠ 0 then grow f L (more (L.drop n)).1 (n + (more (L.drop n)).2) n else (k, n, p)
def scan (L : List UInt8) : Int × Nat × Nat := grow L.length L (part L).1 (part L).2 0

theorem cls_bad : nameB 65533 = false ∧ symP 65533 = false := by decide +kernel
theorem cls_point : nameB 46 = false := by decide +kernel
theorem name_of (c : Int) (h : classI c = 2 ∨ classI c = 3) : nameB c = true := by
  unfold nameB
  rcases h with h | h <;> rw [h] <;> rfl
theorem sym_of (c : Int) (h : classI c = 5) : symP c = true := by
  unfold symP
  rw [h]
  rfl
theorem rn_ascii (b : UInt8) (t : List UInt8) (h : b.toNat < 128) : rn (b :: t) = ((b.toNat : Nat) : Int) ∧ wd (b :: t) = 1 := by
  unfold rn wd
  rw [decodeL_N, show (b :: t).getD 0 0 = b from rfl, decodeN_ascii _ _ _ _ _ h]
  exact ⟨rfl, rfl⟩
theorem ascii_rn (L : List UInt8) (h : rn L < 128) : wd L = 1 ∧ ((L.getD 0 0).toNat : Int) = rn L := by
  unfold rn wd at *
  rw [decodeL_N] at *
  rcases decodeN_shape L.length (L.getD 0 0).toNat (L.getD 1 0).toNat (L.getD 2 0).toNat (L.getD 3 0).toNat with ⟨c, e⟩ | ⟨p1, p2, p3, cv, e⟩ | ⟨p1, p2, p3, p4, cv, cs, e⟩ | ⟨p1, p2, p3, p4, p5, cv, cw, e⟩ | e
  all_goals rw [e] at h ⊢
  all_goals dsimp only at h ⊢
  · exact ⟨rfl, rfl⟩
  all_goals (exfalso; omega)
theorem smallK_cases (b : ByteArray) : smallK b = 9 ∨ smallK b = 1 := by
  unfold smallK
  split
  · exact .inl rfl
  · exact .inr rfl
theorem symK_cases (b : ByteArray) : symK b = 10 ∨ symK b = 6 ∨ symK b = 5 := by
  unfold symK
  repeat' split
  · exact .inl rfl
  · exact .inr (.inl rfl)
  · exact .inr (.inr rfl)
/-- What part may say. -/
theorem part_cases (L : List UInt8) :
    (part L = (0, 0) ∧ (L = [] ∨ (classI (rn L) ≠ 2 ∧ classI (rn L) ≠ 3 ∧ classI (rn L) ≠ 5 ∧ classI (rn L) ≠ 6))) ∨
    (L ≠ [] ∧ classI (rn L) = 2 ∧ part L = (smallK (bts (L.take (run nameB L))), run nameB L)) ∨
    (L ≠ [] ∧ classI (rn L) = 3 ∧ part L = (2, run nameB L)) ∨
    (L ≠ [] ∧ classI (rn L) = 5 ∧ part L = (symK (bts (L.take (run symP L))), run symP L)) ∨
    (L ≠ [] ∧ classI (rn L) = 6 ∧ part L = (15, wd L)) := by
  by_cases h0 : L = []
  · exact .inl ⟨by unfold part; rw [if_pos h0], .inl h0⟩
  by_cases h1 : classI (rn L) = 2
  · exact .inr (.inl ⟨h0, h1, by unfold part; rw [if_neg h0, if_pos h1]⟩)
  by_cases h2 : classI (rn L) = 3
  · exact .inr (.inr (.inl ⟨h0, h2, by unfold part; rw [if_neg h0, if_neg h1, if_pos h2]⟩))
  by_cases h3 : classI (rn L) = 5
  · exact .inr (.inr (.inr (.inl ⟨h0, h3, by unfold part; rw [if_neg h0, if_neg h1, if_neg h2, if_pos h3]⟩)))
  by_cases h4 : classI (rn L) = 6
  · exact .inr (.inr (.inr (.inr ⟨h0, h4, by unfold part; rw [if_neg h0, if_neg h1, if_neg h2, if_neg h3, if_pos h4]⟩)))
  · exact .inl ⟨by unfold part; rw [if_neg h0, if_neg h1, if_neg h2, if_neg h3, if_neg h4], .inr ⟨h1, h2, h3, h4⟩⟩
theorem part_le (L : List UInt8) : (part L).2 ≤ L.length := by
  have a := run_le nameB L.length L (Nat.le_refl _)
  have b := run_le symP L.length L (Nat.le_refl _)
  rcases part_cases L with ⟨e, _⟩ | ⟨_, _, e⟩ | ⟨_, _, e⟩ | ⟨_, _, e⟩ | ⟨h, _, e⟩
  all_goals rw [e]
  · exact Nat.zero_le _
  · exact a
  · exact a
  · exact b
  · exact wd_le L h
theorem part_pos (L : List UInt8) (h : (part L).1 ≠ 0) : 1 ≤ (part L).2 := by
  have hw := wd_pos L
  rcases part_cases L with ⟨e, _⟩ | ⟨h0, c, e⟩ | ⟨h0, c, e⟩ | ⟨h0, c, e⟩ | ⟨h0, _, e⟩
  all_goals rw [e] at h ⊢
  · exact absurd rfl h
  · exact Nat.le_trans hw (run_pos nameB L h0 (name_of _ (.inl c)))
  · exact Nat.le_trans hw (run_pos nameB L h0 (name_of _ (.inr c)))
  · exact Nat.le_trans hw (run_pos symP L h0 (sym_of _ c))
  · exact hw
theorem part_none (L : List UInt8) (h : (part L).1 = 0) : part L = (0, 0) := by
  rcases part_cases L with ⟨e, _⟩ | ⟨h0, c, e⟩ | ⟨h0, c, e⟩ | ⟨h0, c, e⟩ | ⟨h0, _, e⟩
  · exact e
  all_goals rw [e] at h
  all_goals dsimp only at h
  · rcases smallK_cases (bts (L.take (run nameB L))) with q | q <;> (rw [q] at h; cases h)
  · cases h
  · rcases symK_cases (bts (L.take (run symP L))) with q | q | q <;> (rw [q] at h; cases h)
  · cases h
theorem part_kind (L : List UInt8) : (part L).1 = 0 ∨ (part L).1 = 1 ∨ (part L).1 = 2 ∨ (part L).1 = 5 ∨ (part L).1 = 6 ∨ (part L).1 = 9 ∨ (part L).1 = 10 ∨ (part L).1 = 15 := by
  rcases part_cases L with ⟨e, _⟩ | ⟨h0, c, e⟩ | ⟨h0, c, e⟩ | ⟨h0, c, e⟩ | ⟨h0, _, e⟩
  all_goals rw [e]
  all_goals dsimp only
  · omega
  · rcases smallK_cases (bts (L.take (run nameB L))) with q | q <;> (rw [q]; omega)
  · omega
  · rcases symK_cases (bts (L.take (run symP L))) with q | q | q <;> (rw [q]; omega)
  · omega
theorem part_same (L M : List UInt8) (hk : (part L).1 ≠ 0) (ht : M.take (part L).2 = L.take (part L).2) (hl : (part L).2 ≤ M.length)
    (hs : M.drop (part L).2 = [] ∨ (nameB (rn (M.drop (part L).2)) = false ∧ ((part L).1 = 2 ∨ symP (rn (M.drop (part L).2)) = false))) : part M = part L := by
  have hpos := part_pos L hk
  have hw := wd_pos L
  have base : ∀ n, wd L ≤ n → M.take n = L.take n → n ≤ M.length → rn L ≠ 65533 → rn M = rn L ∧ wd M = wd L ∧ M ≠ [] := by
    intro n h1 h2 h3 hb
    have htw : M.take (wd L) = L.take (wd L) := by
      have := congrArg (List.take (wd L)) h2
      rw [List.take_take, List.take_take, Nat.min_eq_left h1] at this
      exact this
    have hd := dec_same L M hb (by omega) htw
    refine ⟨by unfold rn; rw [hd], by unfold wd; rw [hd], ?_⟩
    intro e
    rw [e] at h3
    simp at h3
    omega
  have bad : ∀ k : Int, k ≠ 8 → classI (rn L) = k → rn L ≠ 65533 := by
    intro k hk he h
    rw [h] at he
    have : classI 65533 = 8 := by decide +kernel
    omega
  rcases part_cases L with ⟨e, _⟩ | ⟨h0, c, e⟩ | ⟨h0, c, e⟩ | ⟨h0, c, e⟩ | ⟨h0, c, e⟩
  · rw [e] at hk
    exact absurd rfl hk
  · rw [e] at ht hl hs ⊢
    dsimp only at ht hl hs
    have hr := run_pos nameB L h0 (name_of _ (.inl c))
    obtain ⟨b1, b2, b3⟩ := base _ hr ht hl (bad 2 (by decide) c)
    have hR : run nameB M = run nameB L := run_same nameB cls_bad.1 _ L M (Nat.le_refl _) ht hl (hs.imp id And.left)
    unfold part
    rw [if_neg b3, b1, if_pos c, hR, ht]
  · rw [e] at ht hl hs ⊢
    dsimp only at ht hl hs
    have hr := run_pos nameB L h0 (name_of _ (.inr c))
    obtain ⟨b1, b2, b3⟩ := base _ hr ht hl (bad 3 (by decide) c)
    have hR : run nameB M = run nameB L := run_same nameB cls_bad.1 _ L M (Nat.le_refl _) ht hl (hs.imp id And.left)
    unfold part
    rw [if_neg b3, b1, if_neg (by omega), if_pos c, hR]
  · rw [e] at ht hl hs ⊢
    dsimp only at ht hl hs
    have hr := run_pos symP L h0 (sym_of _ c)
    obtain ⟨b1, b2, b3⟩ := base _ hr ht hl (bad 5 (by decide) c)
    have hR : run symP M = run symP L := by
      refine run_same symP cls_bad.2 _ L M (Nat.le_refl _) ht hl (hs.imp id fun q => ?_)
      rcases q.2 with z | z
      · rcases symK_cases (bts (L.take (run symP L))) with y | y | y <;> (rw [y] at z; cases z)
      · exact z
    unfold part
    rw [if_neg b3, b1, if_neg (by omega), if_neg (by omega), if_pos c, hR, ht]
  · rw [e] at ht hl hs ⊢
    dsimp only at ht hl hs
    obtain ⟨b1, b2, b3⟩ := base _ (Nat.le_refl _) ht hl (bad 6 (by decide) c)
    unfold part
    rw [if_neg b3, b1, if_neg (by omega), if_neg (by omega), if_neg (by omega), if_pos c, b2]

theorem more_cases (R : List UInt8) : (more R = (0, 0) ∧ (R = [] ∨ R.getD 0 0 ≠ 46 ∨ qual (part (R.drop 1)).1 = 0)) ∨ (R ≠ [] ∧ R.getD 0 0 = 46 ∧ qual (part (R.drop 1)).1 ≠ 0 ∧ more R = (qual (part (R.drop 1)).1, 1 + (part (R.drop 1)).2)) := by
  by_cases h : R ≠ [] ∧ R.getD 0 0 = 46 ∧ qual (part (R.drop 1)).1 ≠ 0
  · exact .inr ⟨h.1, h.2.1, h.2.2, by unfold more; rw [if_pos h]⟩
  · refine .inl ⟨by unfold more; rw [if_neg h], ?_⟩
    by_cases a : R = []
    · exact .inl a
    by_cases b : R.getD 0 0 = 46
    · right
      right
      by_cases c : qual (part (R.drop 1)).1 = 0
      · exact c
      · exact absurd ⟨a, b, c⟩ h
    · exact .inr (.inl b)
theorem more_pos (R : List UInt8) (h : (more R).1 ≠ 0) : 2 ≤ (more R).2 ∧ (more R).2 ≤ R.length ∧ R ≠ [] := by
  rcases more_cases R with ⟨e, _⟩ | ⟨a, b, c, e⟩
  · rw [e] at h
    exact absurd rfl h
  · rw [e]
    dsimp only
    have hq : (part (R.drop 1)).1 ≠ 0 := by
      intro z
      rw [z] at c
      exact c rfl
    have h1 := part_pos _ hq
    have h2 := part_le (R.drop 1)
    rw [List.length_drop] at h2
    have h3 : 0 < R.length := List.length_pos_iff.2 a
    exact ⟨by omega, by omega, a⟩
theorem more_nil : (more []).1 = 0 := by
  rcases more_cases [] with ⟨e, _⟩ | ⟨a, _⟩
  · rw [e]
  · exact absurd rfl a
theorem qual_kind (k : Int) : qual k = 0 ∨ qual k = 3 ∨ qual k = 4 ∨ qual k = 7 ∨ qual k = 8 := by
  unfold qual
  repeat' split
  all_goals omega
theorem more_kind (R : List UInt8) : (more R).1 = 0 ∨ (more R).1 = 3 ∨ (more R).1 = 4 ∨ (more R).1 = 7 ∨ (more R).1 = 8 := by
  rcases more_cases R with ⟨e, _⟩ | ⟨a, b, c, e⟩
  · rw [e]
    exact .inl rfl
  · rw [e]
    exact qual_kind _

/-- What has been found of a word, part by part. -/
inductive Lex (L : List UInt8) : Int → Nat → Nat → Prop
  | first (h : (part L).1 ≠ 0) : Lex L (part L).1 (part L).2 0
  | more {k : Int} {n p : Nat} (h : Lex L k n p) (hk : k = 2 ∨ k = 4) (hm : (more (L.drop n)).1 ≠ 0) : Lex L (more (L.drop n)).1 (n + (more (L.drop n)).2) n
theorem Lex.bd {L : List UInt8} {k : Int} {n p : Nat} (h : Lex L k n p) : k ≠ 0 ∧ 1 ≤ n ∧ n ≤ L.length ∧ (k = 3 ∨ k = 4 ∨ k = 7 ∨ k = 8 → p < n ∧ 1 ≤ p) ∧ (k = 1 ∨ k = 2 ∨ k = 5 ∨ k = 6 ∨ k = 9 ∨ k = 10 ∨ k = 15 → p = 0) := by
  induction h with
  | first h =>
    have := part_kind L
    exact ⟨h, part_pos L h, part_le L, fun q => by omega, fun _ => rfl⟩
  | more h hk hm ih =>
    rename_i k n p
    obtain ⟨a, b, c⟩ := more_pos _ hm
    rw [List.length_drop] at b
    have := more_kind (L.drop n)
    exact ⟨hm, by omega, by omega, fun _ => by omega, fun q => by omega⟩
theorem grow_final (f : Nat) (L : List UInt8) (k : Int) (n p : Nat) (h : ¬ (k = 2 ∨ k = 4) ∨ (more (L.drop n)).1 = 0) : grow f L k n p = (k, n, p) := by
  cases f with
  | zero => rfl
  | succ f =>
    rw [grow, if_neg]
    rintro ⟨a, b⟩
    rcases h with h | h
    · exact h a
    · exact b h
theorem grow_next (f : Nat) (L : List UInt8) (k : Int) (n p : Nat) (hk : k = 2 ∨ k = 4) (hm : (more (L.drop n)).1 ≠ 0) : grow (f + 1) L k n p = grow f L (more (L.drop n)).1 (n + (more (L.drop n)).2) n := by
  rw [grow, if_pos ⟨hk, hm⟩]
theorem more_end (L : List UInt8) (n : Nat) (h : L.length ≤ n) : (more (L.drop n)).1 = 0 := by
  rw [List.drop_eq_nil_of_le h]
  exact more_nil
theorem Lex.reach {L : List UInt8} {k : Int} {n p : Nat} (h : Lex L k n p) : ∃ f, L.length ≤ n + f ∧ scan L = grow f L k n p := by
  induction h with
  | first h => exact ⟨L.length, by omega, rfl⟩
  | more h hk hm ih =>
    rename_i k n p
    obtain ⟨f, hf, e⟩ := ih
    cases f with
    | zero => exact absurd (more_end L n (by omega)) hm
    | succ f =>
      obtain ⟨a, _, _⟩ := more_pos _ hm
      exact ⟨f, by omega, by rw [e, grow_next f L k n p hk hm]⟩
theorem scan_of_lex {L : List UInt8} {k : Int} {n p : Nat} (h : Lex L k n p) (hd : ¬ (k = 2 ∨ k = 4) ∨ (more (L.drop n)).1 = 0) : scan L = (k, n, p) := by
  obtain ⟨f, _, e⟩ := h.reach
  rw [e, grow_final f L k n p hd]
theorem grow_lex (L : List UInt8) : ∀ (f : Nat) (k : Int) (n p : Nat), L.length ≤ n + f → Lex L k n p →
    Lex L (grow f L k n p).1 (grow f L k n p).2.1 (grow f L k n p).2.2 ∧ (¬ ((grow f L k n p).1 = 2 ∨ (grow f L k n p).1 = 4) ∨ (more (L.drop (grow f L k n p).2.1)).1 = 0)
  | 0, k, n, p, hf, h => ⟨h, .inr (more_end L n (by omega))⟩
  | f + 1, k, n, p, hf, h => by
    by_cases q : (k = 2 ∨ k = 4) ∧ (Wrd.more (L.drop n)).1 ≠ 0
    · rw [grow_next f L k n p q.1 q.2]
      obtain ⟨a, _, _⟩ := more_pos _ q.2
      exact grow_lex L f _ _ _ (by omega) (Lex.more h q.1 q.2)
    · have q' : ¬ (k = 2 ∨ k = 4) ∨ (Wrd.more (L.drop n)).1 = 0 := by
        by_cases a : k = 2 ∨ k = 4
        · right
          by_cases b : (Wrd.more (L.drop n)).1 = 0
          · exact b
          · exact absurd ⟨a, b⟩ q
        · exact .inl a
      rw [grow_final _ L k n p q']
      exact ⟨h, q'⟩
theorem scan_none (L : List UInt8) (h : (part L).1 = 0) : scan L = (0, 0, 0) := by
  unfold scan
  rw [part_none L h, grow_final _ _ _ _ _ (.inl (by decide))]
theorem scan_lex (L : List UInt8) (h : (part L).1 ≠ 0) : Lex L (scan L).1 (scan L).2.1 (scan L).2.2 ∧ (¬ ((scan L).1 = 2 ∨ (scan L).1 = 4) ∨ (more (L.drop (scan L).2.1)).1 = 0) :=
  grow_lex L L.length _ _ _ (by omega) (Lex.first h)
theorem scan_cases (L : List UInt8) : (scan L = (0, 0, 0) ∧ (part L).1 = 0) ∨ (Lex L (scan L).1 (scan L).2.1 (scan L).2.2 ∧ (¬ ((scan L).1 = 2 ∨ (scan L).1 = 4) ∨ (more (L.drop (scan L).2.1)).1 = 0)) := by
  by_cases h : (part L).1 = 0
  · exact .inl ⟨scan_none L h, h⟩
  · exact .inr (scan_lex L h)

theorem take_le_of {M L : List UInt8} {n m : Nat} (h : M.take n = L.take n) (hm : m ≤ n) : M.take m = L.take m := by
  have := congrArg (List.take m) h
  rw [List.take_take, List.take_take, Nat.min_eq_left hm] at this
  exact this
theorem drop_take_of {M L : List UInt8} {n m k : Nat} (h : M.take n = L.take n) (hm : m + k ≤ n) : (M.drop m).take k = (L.drop m).take k := by
  have := congrArg (List.drop m) (take_le_of h hm)
  rw [List.drop_take, List.drop_take, Nat.add_sub_cancel_left] at this
  exact this
theorem getD_take {A : List UInt8} {k i : Nat} (h : i < k) : A.getD i 0 = (A.take k).getD i 0 := by
  rw [getD_takeU _ _ _ h]
theorem ne_of_head {R : List UInt8} (h : R.getD 0 0 = 46) : R ≠ [] := by
  intro e
  rw [e] at h
  cases h
theorem point_head {R : List UInt8} (h : R.getD 0 0 = 46) : rn R = 46 := by
  cases R with
  | nil => cases h
  | cons b t =>
    obtain rfl : b = 46 := h
    exact (rn_ascii 46 t (by decide)).1
/-- What has been found hangs on its own bytes, and on what follows. -/
theorem Lex.same {L M : List UInt8} {k : Int} {n p : Nat} (h : Lex L k n p) : M.take n = L.take n → n ≤ M.length →
    (M.drop n = [] ∨ (nameB (rn (M.drop n)) = false ∧ (k = 2 ∨ k = 4 ∨ symP (rn (M.drop n)) = false))) → Lex M k n p := by
  induction h with
  | first h =>
    intro ht hl hs
    have e := part_same L M h ht hl (hs.imp id fun q => ⟨q.1, by
      rcases q.2 with z | z | z
      · exact .inl z
      · have := part_kind L
        omega
      · exact .inr z⟩)
    rw [← e]
    exact Lex.first (by rw [e]; exact h)
  | more h hk hm ih =>
    rename_i k n p
    intro ht hl hs
    have hbd := h.bd
    obtain ⟨a, b, c⟩ := more_pos _ hm
    rcases more_cases (L.drop n) with ⟨e, _⟩ | ⟨d0, d1, d2, e⟩
    · rw [e] at hm
      exact absurd rfl hm
    have hd : (M.drop n).take (Wrd.more (L.drop n)).2 = (L.drop n).take (Wrd.more (L.drop n)).2 := drop_take_of ht (Nat.le_refl _)
    have hM46 : (M.drop n).getD 0 0 = 46 := by
      rw [getD_take (k := (Wrd.more (L.drop n)).2) (by omega), hd, ← getD_take (by omega)]
      exact d1
    have hprev := ih (take_le_of ht (by omega)) (by omega) (.inr ⟨by rw [point_head hM46]; exact cls_point, hk.imp id Or.inl⟩)
    have hq : (part ((L.drop n).drop 1)).1 ≠ 0 := by
      intro z
      rw [z] at d2
      exact d2 rfl
    have hlen : (Wrd.more (L.drop n)).2 = 1 + (part ((L.drop n).drop 1)).2 := by rw [e]
    have hp : part ((M.drop n).drop 1) = part ((L.drop n).drop 1) := by
      refine part_same _ _ hq ?_ ?_ ?_
      · have := drop_take_of (m := 1) (k := (part ((L.drop n).drop 1)).2) hd (by omega)
        exact this
      · rw [List.length_drop, List.length_drop]
        omega
      · rw [List.drop_drop, List.drop_drop, show n + (1 + (part ((L.drop n).drop 1)).2) = n + (Wrd.more (L.drop n)).2 from by rw [hlen]]
        refine hs.imp id fun q => ⟨q.1, ?_⟩
        rcases q.2 with z | z | z
        · have := more_kind (L.drop n)
          omega
        · left
          rw [e] at z
          dsimp only at z
          unfold qual at z
          repeat' split at z
          all_goals omega
        · exact .inr z
    have hMm : Wrd.more (M.drop n) = Wrd.more (L.drop n) := by
      rcases more_cases (M.drop n) with ⟨_, z⟩ | ⟨_, _, _, z⟩
      · rw [hp] at z
        rcases z with z | z | z
        · exact absurd z (ne_of_head hM46)
        · exact absurd hM46 z
        · exact absurd z d2
      · rw [z, e, hp]
    rw [← hMm]
    exact Lex.more hprev hk (by rw [hMm]; exact hm)

/-- A word is the same word wherever it stands, if nothing follows it, or what neither a name nor an operator goes on with. -/
theorem scan_same (L M : List UInt8) (hk : (scan L).1 ≠ 0) (ht : M.take (scan L).2.1 = L.take (scan L).2.1) (hl : (scan L).2.1 ≤ M.length)
    (hs : M.drop (scan L).2.1 = [] ∨ (nameB (rn (M.drop (scan L).2.1)) = false ∧ symP (rn (M.drop (scan L).2.1)) = false)) : scan M = scan L := by
  rcases scan_cases L with ⟨e, _⟩ | ⟨hx, hd⟩
  · rw [e] at hk
    exact absurd rfl hk
  have hM := hx.same ht hl (hs.imp id fun q => ⟨q.1, .inr (.inr q.2)⟩)
  have := scan_of_lex hM ?_
  · rw [this]
  · right
    rcases hs with z | z
    · rw [z]
      exact more_nil
    · rcases more_cases (M.drop (scan L).2.1) with ⟨e, _⟩ | ⟨_, d1, _⟩
      · rw [e]
      · have := point_head d1
        rw [this] at z
        have : symP 46 = true := by decide +kernel
        rw [this] at z
        exact absurd z.2 (by decide)
/-- By itself. -/
theorem scan_alone (L : List UInt8) (hk : (scan L).1 ≠ 0) : scan (L.take (scan L).2.1) = scan L := by
  rcases scan_cases L with ⟨e, _⟩ | ⟨hx, hd⟩
  · rw [e] at hk
    exact absurd rfl hk
  have hb := hx.bd
  refine scan_same L _ hk ?_ ?_ ?_
  · rw [List.take_take, Nat.min_self]
  · rw [List.length_take]
    omega
  · left
    rw [List.drop_take, Nat.sub_self, List.take_zero]
end Go.Proofs.YtmgclgojmckfhaaGreatDoor.Wrd
/-
  Numbers as rows of bytes: how many digits a row begins with, which number, what it is worth, its decimal digits; that a number is one by itself, and that noughts change nothing. No program is run here.
-/
namespace Go.Proofs.YtmgclgojmckfhaaGreatDoor.Num
open Go.Lib Gly

/-- What a byte is worth as a digit to a base; is it one? -/
def dg (b : Nat) (x : UInt8) : Int := digitI ((x.toNat : Nat) : Int) (b : Int)
def isD (b : Nat) (x : UInt8) : Bool := decide (0 ≤ dg b x)
theorem dg_bd (b : Nat) (x : UInt8) : -1 ≤ dg b x ∧ dg b x ≤ 15 ∧ (0 ≤ dg b x → dg b x < b ∧ 2 ≤ b ∧ b ≤ 16) := by
  have := digV_bd ((x.toNat : Nat) : Int)
  unfold dg digitI
  split <;> omega
theorem dg_small (b : Nat) (h : b < 2) (x : UInt8) : isD b x = false := by
  unfold isD
  rw [decide_eq_false_iff_not]
  intro h0
  have := (dg_bd b x).2.2 h0
  omega
theorem digV_ten (c : Int) (h : 48 ≤ c ∧ c ≤ 57) : digV c = c - 48 := by
  unfold digV wthn
  simp [h.1, h.2]
theorem dg_ten (x : UInt8) (h : 48 ≤ x.toNat ∧ x.toNat ≤ 57) : dg 10 x = (x.toNat : Int) - 48 := by
  unfold dg digitI
  rw [digV_ten _ (by omega)]
  split <;> omega
theorem isD_ten (x : UInt8) : isD 10 x = decide (48 ≤ x.toNat ∧ x.toNat ≤ 57) := by
  unfold isD
  by_cases h : 48 ≤ x.toNat ∧ x.toNat ≤ 57
  · rw [dg_ten x h, decide_eq_true h, decide_eq_true]
    omega
  · rw [decide_eq_false h, decide_eq_false_iff_not]
    unfold dg digitI digV wthn
    simp only [Bool.and_eq_true, decide_eq_true_eq]
    repeat' split
    all_goals omega
theorem dg_ten' (x : UInt8) (h : isD 10 x = true) : dg 10 x = (x.toNat : Int) - 48 ∧ 48 ≤ x.toNat ∧ x.toNat ≤ 57 := by
  rw [isD_ten] at h
  have := of_decide_eq_true h
  exact ⟨dg_ten x this, this⟩

/-- How many digits to a base a row begins with. -/
def run (b : Nat) : List UInt8 → Nat
  | [] => 0
  | x :: L => if isD b x then run b L + 1 else 0
theorem run_le (b : Nat) : ∀ L, run b L ≤ L.length
  | [] => Nat.le_refl _
  | x :: L => by
    have := run_le b L
    rw [run, List.length_cons]
    split <;> omega
theorem run_take (b : Nat) : ∀ (L : List UInt8) (n : Nat), run b (L.take n) = min n (run b L)
  | [], n => by simp [run]
  | x :: L, 0 => by simp [run]
  | x :: L, n + 1 => by
    rw [List.take_succ_cons, run, run, run_take b L n]
    split <;> omega
theorem run_allD (b : Nat) : ∀ L : List UInt8, (L.take (run b L)).all (isD b) = true
  | [] => by simp [run]
  | x :: L => by
    rw [run]
    split
    · rename_i h
      rw [List.take_succ_cons, List.all_cons, h, run_allD b L]
      rfl
    · rfl
theorem run_app (b : Nat) : ∀ (L M : List UInt8), L.all (isD b) = true → run b (L ++ M) = L.length + run b M
  | [], M, _ => by simp
  | x :: L, M, h => by
    rw [List.all_cons, Bool.and_eq_true] at h
    rw [List.cons_append, run, if_pos h.1, run_app b L M h.2, List.length_cons]
    omega
theorem run_small (b : Nat) (h : b < 2) : ∀ L, run b L = 0
  | [] => rfl
  | x :: L => by rw [run, dg_small b h x]; rfl
/-- The byte at a place; 0 where there is none. -/
def bt (L : List UInt8) (n : Nat) : Nat := (L.getD n 0).toNat
theorem bt_out (L : List UInt8) (n : Nat) (h : L.length ≤ n) : bt L n = 0 := by
  unfold bt
  rw [List.getD_eq_getElem?_getD, List.getElem?_eq_none h]
  rfl
theorem bt_take (L : List UInt8) (n i : Nat) : bt (L.take n) i = if i < n then bt L i else 0 := by
  unfold bt
  split
  · rename_i h
    rw [List.getD_eq_getElem?_getD, List.getElem?_take_of_lt h, ← List.getD_eq_getElem?_getD]
  · rename_i h
    rw [List.getD_eq_getElem?_getD, List.getElem?_eq_none (by rw [List.length_take]; omega)]
    rfl
theorem bt_drop (L : List UInt8) (n i : Nat) : bt (L.drop n) i = bt L (n + i) := by
  unfold bt
  rw [List.getD_eq_getElem?_getD, List.getElem?_drop, ← List.getD_eq_getElem?_getD]
theorem bt_lt (L : List UInt8) (n : Nat) (h : bt L n ≠ 0) : n < L.length := by
  rcases Nat.lt_or_ge n L.length with h1 | h1
  · exact h1
  · exact absurd (bt_out L n h1) h
theorem bt_run (b : Nat) (L : List UInt8) (i : Nat) (h : i < run b L) : ∃ x, L[i]? = some x ∧ isD b x = true := by
  have hl := run_le b L
  have ha := run_allD b L
  rw [List.all_eq_true] at ha
  refine ⟨L[i], List.getElem?_eq_getElem (by omega), ha _ ?_⟩
  have : (L.take (run b L))[i]'(by rw [List.length_take]; omega) = L[i] := by rw [List.getElem_take]
  rw [← this]
  exact List.getElem_mem _
theorem bt_dig (L : List UInt8) (i : Nat) (h : i < run 10 L) : 48 ≤ bt L i ∧ bt L i ≤ 57 := by
  obtain ⟨x, hx, hd⟩ := bt_run 10 L i h
  unfold bt
  rw [List.getD_eq_getElem?_getD, hx]
  exact (dg_ten' x hd).2

/-- Which base a letter stands for; 0: none. -/
def letter (x : Nat) : Nat := if x = 111 ∨ x = 79 then 8 else if x = 120 ∨ x = 88 then 16 else 0
theorem letter_is (x : Nat) : letter x = 0 ∨ letter x = 8 ∨ letter x = 16 := by
  unfold letter
  repeat' split
  all_goals omega
theorem letter_zero : letter 0 = 0 := rfl
/-- The base that a row's letter tells; 0: none. -/
def lett (L : List UInt8) : Nat := if bt L 0 = 48 then letter (bt L 1) else 0
theorem lett_is (L : List UInt8) : lett L = 0 ∨ lett L = 8 ∨ lett L = 16 := by
  unfold lett
  split
  · exact letter_is _
  · exact .inl rfl
def endOr (L : List UInt8) (at' oth : Nat) : Nat := if 0 < run 10 (L.drop at') then at' + run 10 (L.drop at') else oth
def fracE (L : List UInt8) (at' : Nat) : Nat := if bt L at' = 46 then endOr L (at' + 1) at' else at'
def expF (L : List UInt8) (at' : Nat) : Nat := if bt L (at' + 1) = 43 ∨ bt L (at' + 1) = 45 then at' + 2 else at' + 1
def expE (L : List UInt8) (at' : Nat) : Nat := if bt L at' = 101 ∨ bt L at' = 69 then endOr L (expF L at') at' else at'

/-- The number that a row begins with. -/
structure Nl where
  kind : Nat
  base : Nat
  beg : Nat
  point : Nat
  mant : Nat
  fin : Nat
def Nl.none : Nl := ⟨0, 0, 0, 0, 0, 0⟩
def lettL (L : List UInt8) : Nl := if 0 < run (lett L) (L.drop 2) then ⟨11, lett L, 2, 0, 0, 2 + run (lett L) (L.drop 2)⟩ else Nl.none
def decL (L : List UInt8) : Nl :=
  if run 10 L = 0 then Nl.none else
  ⟨if run 10 L < expE L (fracE L (run 10 L)) then 12 else 11, 10, 0, run 10 L, fracE L (run 10 L), expE L (fracE L (run 10 L))⟩
def readL (L : List UInt8) : Nl := if 0 < run (lett L) (L.drop 2) then lettL L else decL L

theorem drop_le (b : Nat) (L : List UInt8) (n : Nat) (h : 0 < run b (L.drop n)) : n + run b (L.drop n) ≤ L.length := by
  have := run_le b (L.drop n)
  rw [List.length_drop] at this
  omega
theorem endOr_le (L : List UInt8) (a o : Nat) (h : o ≤ L.length) : endOr L a o ≤ L.length := by
  unfold endOr
  split
  · rename_i h1
    exact drop_le 10 L a h1
  · exact h
theorem endOr_ge (L : List UInt8) (a o : Nat) (h : o ≤ a) : o ≤ endOr L a o := by
  unfold endOr
  split <;> omega
theorem fracE_ge (L : List UInt8) (a : Nat) : a ≤ fracE L a := by
  unfold fracE
  split
  · exact endOr_ge L _ _ (by omega)
  · exact Nat.le_refl _
theorem fracE_le (L : List UInt8) (a : Nat) (h : a ≤ L.length) : fracE L a ≤ L.length := by
  unfold fracE
  split
  · exact endOr_le L _ _ h
  · exact h
theorem expF_ge (L : List UInt8) (a : Nat) : a + 1 ≤ expF L a := by
  unfold expF
  split <;> omega
theorem expE_ge (L : List UInt8) (a : Nat) : a ≤ expE L a := by
  unfold expE
  split
  · exact endOr_ge L _ _ (by have := expF_ge L a; omega)
  · exact Nat.le_refl _
theorem expE_le (L : List UInt8) (a : Nat) (h : a ≤ L.length) : expE L a ≤ L.length := by
  unfold expE
  split
  · exact endOr_le L _ _ h
  · exact h
theorem readL_fin (L : List UInt8) : (readL L).fin ≤ L.length := by
  have h10 := run_le 10 L
  unfold readL
  split
  · rename_i h
    unfold lettL
    rw [if_pos h]
    exact drop_le _ L 2 h
  · unfold decL
    split
    · exact Nat.zero_le _
    · exact expE_le L _ (fracE_le L _ h10)
theorem decL_pos (L : List UInt8) (h : (decL L).kind ≠ 0) : 0 < run 10 L ∧ (decL L).fin = expE L (fracE L (run 10 L)) := by
  unfold decL at h ⊢
  split
  · rename_i h0
    rw [if_pos h0] at h
    exact absurd rfl h
  · exact ⟨by omega, rfl⟩
theorem readL_pos (L : List UInt8) (h : (readL L).kind ≠ 0) : 0 < (readL L).fin := by
  unfold readL at h ⊢
  split
  · rename_i h1
    unfold lettL
    rw [if_pos h1]
    show 0 < 2 + _
    omega
  · rename_i h1
    rw [if_neg h1] at h
    have := decL_pos L h
    have h2 := fracE_ge L (run 10 L)
    have h3 := expE_ge L (fracE L (run 10 L))
    omega
theorem readL_kind (L : List UInt8) : (readL L).kind = 0 ∧ readL L = Nl.none ∨ (readL L).kind = 11 ∨ (readL L).kind = 12 := by
  unfold readL
  split
  · rename_i h1
    unfold lettL
    rw [if_pos h1]
    exact .inr (.inl rfl)
  · unfold decL
    split
    · exact .inl ⟨rfl, rfl⟩
    · show _ ∨ (if _ then 12 else 11) = 11 ∨ _
      by_cases h : run 10 L < expE L (fracE L (run 10 L))
      · exact .inr (.inr (if_pos h))
      · exact .inr (.inl (if_neg h))

theorem endOr_take (L : List UInt8) (n a o : Nat) (h : endOr L a o ≤ n) : endOr (L.take n) a o = endOr L a o := by
  unfold endOr at h ⊢
  rw [List.drop_take, run_take]
  split at h
  · rename_i h1
    rw [if_pos h1, if_pos (by omega)]
    omega
  · rename_i h1
    rw [if_neg h1, if_neg (by omega)]
theorem endOr_past (L : List UInt8) (n a o : Nat) (h : n ≤ a) : endOr (L.take n) a o = o := by
  unfold endOr
  rw [List.drop_take, run_take, if_neg (by omega)]
theorem fracE_take (L : List UInt8) (n a : Nat) (h : fracE L a ≤ n) : fracE (L.take n) a = fracE L a := by
  have h0 := fracE_ge L a
  unfold fracE
  rw [bt_take]
  by_cases hn : a < n
  · rw [if_pos hn]
    split
    · rename_i h1
      unfold fracE at h
      rw [if_pos h1] at h
      exact endOr_take L n _ _ h
    · rfl
  · rw [if_neg hn, if_neg (by omega)]
    unfold fracE at h h0
    omega
theorem expE_take (L : List UInt8) (n a : Nat) (h : expE L a ≤ n) : expE (L.take n) a = expE L a := by
  have h0 := expE_ge L a
  unfold expE
  rw [bt_take]
  by_cases hn : a < n
  · rw [if_pos hn]
    split
    · rename_i h1
      unfold expE at h
      rw [if_pos h1] at h
      by_cases hm : a + 1 < n
      · have : expF (L.take n) a = expF L a := by
          unfold expF
          rw [bt_take, if_pos hm]
        rw [this]
        exact endOr_take L n _ _ h
      · rw [endOr_past _ _ _ _ (by have := expF_ge (L.take n) a; omega)]
        have h2 := expF_ge L a
        unfold endOr at h ⊢
        split at h
        · rename_i h3
          omega
        · rename_i h3
          rw [if_neg h3]
    · rfl
  · rw [if_neg hn, if_neg (by omega)]
    unfold expE at h h0
    omega
theorem lett_take (L : List UInt8) (n : Nat) (h : 1 ≤ n) : lett (L.take n) = if 1 < n then lett L else 0 := by
  have e : (if 0 < n then bt L 0 else 0) = bt L 0 := if_pos (by omega)
  unfold lett
  rw [bt_take, bt_take, e]
  by_cases h0 : bt L 0 = 48
  · rw [if_pos h0, if_pos h0]
    by_cases h1 : 1 < n
    · rw [if_pos h1, if_pos h1]
    · rw [if_neg h1, if_neg h1, letter_zero]
  · rw [if_neg h0, if_neg h0]
    split <;> rfl
/-- A number that a row begins with is that number by itself. -/
theorem readL_take (L : List UInt8) (h : (readL L).kind ≠ 0) : readL (L.take (readL L).fin) = readL L := by
  have hp := readL_pos L h
  by_cases h1 : 0 < run (lett L) (L.drop 2)
  · have e : readL L = ⟨11, lett L, 2, 0, 0, 2 + run (lett L) (L.drop 2)⟩ := by
      unfold readL lettL
      rw [if_pos h1, if_pos h1]
    rw [e]
    dsimp only
    have hl : lett (L.take (2 + run (lett L) (L.drop 2))) = lett L := by rw [lett_take _ _ (by omega), if_pos (by omega)]
    have hr : run (lett L) ((L.take (2 + run (lett L) (L.drop 2))).drop 2) = run (lett L) (L.drop 2) := by
      rw [List.drop_take, run_take]
      omega
    unfold readL lettL
    rw [hl, hr, if_pos h1, if_pos h1]
  · have e : readL L = decL L := by
      unfold readL
      rw [if_neg h1]
    rw [e] at h hp ⊢
    obtain ⟨k1, k2⟩ := decL_pos L h
    have g1 := fracE_ge L (run 10 L)
    have g2 := expE_ge L (fracE L (run 10 L))
    have hno : ¬ 0 < run (lett (L.take (decL L).fin)) ((L.take (decL L).fin).drop 2) := by
      rw [lett_take _ _ (by omega), List.drop_take, run_take]
      by_cases hq : 1 < (decL L).fin
      · rw [if_pos hq]
        omega
      · rw [if_neg hq, run_small 0 (by omega)]
        omega
    have hr : readL (L.take (decL L).fin) = decL (L.take (decL L).fin) := by
      unfold readL
      rw [if_neg hno]
    rw [hr, k2]
    have r10 : run 10 (L.take (expE L (fracE L (run 10 L)))) = run 10 L := by
      rw [run_take]
      omega
    unfold decL
    rw [r10, fracE_take L _ _ g2, expE_take L _ _ (Nat.le_refl _)]

/-- What a whole number's digits are worth. -/
def valOf (b : Nat) : Nat → List UInt8 → Nat
  | v, [] => v
  | v, x :: L => valOf b (v * b + (dg b x).toNat) L
end Go.Proofs.YtmgclgojmckfhaaGreatDoor.Num
/-
  Character and string literals as rows of bytes: which escape follows a backslash, which piece a row begins with, how a literal is read; that a piece hangs on its own bytes and on the byte behind it alone. No program is run here.
-/
namespace Go.Proofs.YtmgclgojmckfhaaGreatDoor.Qt
open Go.Lib Gly
open Wrd (rn wd)

/-- The first byte of a row; 256: there is none. -/
def hd : List UInt8 → Nat
  | [] => 256
  | x :: _ => x.toNat
theorem hd_lt (L : List UInt8) (h : hd L ≠ 256) : ∃ x t, L = x :: t ∧ hd L = x.toNat := by
  cases L with
  | nil => exact absurd rfl h
  | cons x t => exact ⟨x, t, rfl, rfl⟩
theorem hd_cons (L : List UInt8) (n : Nat) (h : hd L = n) (hn : n < 256) : ∃ x t, L = x :: t ∧ x.toNat = n := by
  obtain ⟨x, t, e, hx⟩ := hd_lt L (by omega)
  exact ⟨x, t, e, by omega⟩
theorem hd_same {L M : List UInt8} (h : hd L = hd M) : (L = [] ∧ M = []) ∨ ∃ x t u, L = x :: t ∧ M = x :: u := by
  cases L with
  | nil =>
    cases M with
    | nil => exact .inl ⟨rfl, rfl⟩
    | cons y u =>
      have := y.toNat_lt
      simp only [hd] at h
      omega
  | cons x t =>
    cases M with
    | nil =>
      have := x.toNat_lt
      simp only [hd] at h
      omega
    | cons y u =>
      simp only [hd] at h
      obtain rfl := UInt8.toNat_inj.1 h
      exact .inr ⟨x, t, u, rfl, rfl⟩
theorem hd_app (L M : List UInt8) (h : L ≠ []) : hd (L ++ M) = hd L := by
  cases L with
  | nil => exact absurd rfl h
  | cons x t => rfl
theorem hd_take (L : List UInt8) (n : Nat) (h : n ≠ 0) : hd (L.take n) = hd L := by
  cases L with
  | nil => simp
  | cons x t =>
    cases n with
    | zero => exact absurd rfl h
    | succ n => rfl
/-- A row whose first bytes are another's, then something that begins as what follows there: at each place before the end the first byte is the same. -/
theorem hd_at (L R : List UInt8) (k i : Nat) (hk : k ≤ L.length) (hi : i ≤ k) (hr : hd R = hd (L.drop k)) : hd ((L.take k ++ R).drop i) = hd (L.drop i) := by
  rw [List.drop_append_of_le_length (by rw [List.length_take]; omega), List.drop_take]
  rcases Nat.eq_or_lt_of_le hi with rfl | h
  · rw [Nat.sub_self, List.take_zero, List.nil_append, hr]
  · have hne : (L.drop i).take (k - i) ≠ [] := by
      intro e
      have := congrArg List.length e
      rw [List.length_take, List.length_drop] at this
      simp at this
      omega
    rw [hd_app _ _ hne, hd_take _ _ (by omega)]

/-- Runes that are blank. -/
def blkP (c : Int) : Bool := classI c == 1
theorem blk_bad : blkP 65533 = false := by decide +kernel
theorem blk_slash : blkP 92 = false := by decide +kernel
theorem blk_is (c : Int) : blkP c = blankB c := by
  unfold blkP classI
  cases blankB c with
  | true => rfl
  | false =>
    rw [if_neg (by decide)]
    repeat' split
    all_goals rfl
theorem blk_small (c : Int) (h : blkP c = true) : (9 ≤ c ∧ c ≤ 13) ∨ c = 32 := by
  rw [blk_is] at h
  unfold blankB wthn at h
  simp at h
  omega
theorem rn_ascii (b : UInt8) (t : List UInt8) (h : b.toNat < 128) : rn (b :: t) = ((b.toNat : Nat) : Int) ∧ wd (b :: t) = 1 := by
  unfold rn wd
  rw [decodeL_N, show (b :: t).getD 0 0 = b from rfl, decodeN_ascii _ _ _ _ _ h]
  exact ⟨rfl, rfl⟩
theorem ascii_rn (L : List UInt8) (h : rn L < 128) : wd L = 1 ∧ ((L.getD 0 0).toNat : Int) = rn L := by
  unfold rn wd at *
  rw [decodeL_N] at *
  rcases decodeN_shape L.length (L.getD 0 0).toNat (L.getD 1 0).toNat (L.getD 2 0).toNat (L.getD 3 0).toNat with ⟨c, e⟩ | ⟨p1, p2, p3, cv, e⟩ | ⟨p1, p2, p3, p4, cv, cs, e⟩ | ⟨p1, p2, p3, p4, p5, cv, cw, e⟩ | e
  all_goals rw [e] at h ⊢
  all_goals dsimp only at h ⊢
  · exact ⟨rfl, rfl⟩
  all_goals (exfalso; omega)
/-- The bytes of a rune of more than one byte are 128 and more. -/
theorem rn_wide (L : List UInt8) (h : 128 ≤ rn L) (hne : decodeL L ≠ (65533, 1)) : ∀ x ∈ L.take (wd L), 128 ≤ x.toNat := by
  intro x hx
  obtain ⟨j, hj, rfl⟩ := List.mem_iff_getElem.1 hx
  rw [List.length_take] at hj
  rw [List.getElem_take]
  have hg : L[j] = L.getD j 0 := by rw [List.getD_eq_getElem?_getD, List.getElem?_eq_getElem (by omega)]; rfl
  rw [hg]
  have hw : j < wd L := by omega
  unfold rn wd at *
  rw [decodeL_N] at h hw hne
  rcases decodeN_shape L.length (L.getD 0 0).toNat (L.getD 1 0).toNat (L.getD 2 0).toNat (L.getD 3 0).toNat with ⟨c, e⟩ | ⟨c1, c2, c3, cv, e⟩ | ⟨c1, c2, c3, c4, cv, cs, e⟩ | ⟨c1, c2, c3, c4, c5, cv, cw, e⟩ | e
  all_goals rw [e] at h hw hne
  all_goals dsimp only at h hw
  · omega
  · rcases (show j = 0 ∨ j = 1 by omega) with rfl | rfl <;> omega
  · rcases (show j = 0 ∨ j = 1 ∨ j = 2 by omega) with rfl | rfl | rfl <;> omega
  · rcases (show j = 0 ∨ j = 1 ∨ j = 2 ∨ j = 3 by omega) with rfl | rfl | rfl | rfl <;> omega
  · exact absurd rfl hne
theorem blk_head (L : List UInt8) (h : blkP (rn L) = true) (hne : L ≠ []) : ((hd L : Nat) : Int) = rn L ∧ wd L = 1 := by
  have h1 := blk_small _ h
  have h2 := ascii_rn L (by omega)
  cases L with
  | nil => exact absurd rfl hne
  | cons x t => exact ⟨h2.2, h2.1⟩
theorem blk_ascii (L : List UInt8) (h : hd L < 128) : blkP (rn L) = blkP ((hd L : Nat) : Int) := by
  obtain ⟨x, t, rfl, hx⟩ := hd_lt L (by omega)
  rw [hx] at h ⊢
  rw [(rn_ascii x t h).1]
theorem dec_same (L M : List UInt8) (hg : decodeL L ≠ (65533, 1)) (hM : wd L ≤ M.length) (h : M.take (wd L) = L.take (wd L)) : decodeL M = decodeL L := by
  have hw := Wrd.wd_pos L
  have g : ∀ i, i < wd L → M.getD i 0 = L.getD i 0 := by
    intro i hi
    rw [← getD_takeU M (wd L) i hi, h, getD_takeU L (wd L) i hi]
  unfold wd at *
  rw [decodeL_N] at hg
  rw [decodeL_N L] at hM g hw
  rw [decodeL_N M, decodeL_N L, g 0 (by omega)]
  exact Wrd.decodeN_piece _ _ _ _ _ _ _ _ (fun q => by rw [g 1 q]) (fun q => by rw [g 2 q]) (fun q => by rw [g 3 q]) _ hM hg

/-- One sign behind a backslash; 0: none. -/
def short (x : Nat) : Nat :=
  if x = 97 then 7 else if x = 98 then 8 else if x = 116 then 9 else if x = 110 then 10 else if x = 118 then 11 else if x = 102 then 12 else if x = 114 then 13 else if x = 92 ∨ x = 34 ∨ x = 39 then x else 0
/-- Digits of a base: their worth, but at most one more than the greatest; how many there are. -/
def digE (b : Nat) (L : List UInt8) : Nat × Nat := (min (Num.valOf b 0 (L.take (Num.run b L))) 1114112, Num.run b L)
def lettE (b : Nat) (L : List UInt8) : Nat × Nat := if Num.run b L = 0 then (0, 0) else ((digE b L).1, Num.run b L + 1)
def namesL : List (List UInt8) := [[78, 85, 76], [83, 79, 72], [83, 84, 88], [69, 84, 88], [69, 79, 84], [69, 78, 81], [65, 67, 75], [66, 69, 76], [66, 83], [72, 84], [76, 70], [86, 84], [70, 70], [67, 82], [83, 79], [83, 73], [68, 76, 69], [68, 67, 49], [68, 67, 50], [68, 67, 51], [68, 67, 52], [78, 65, 75], [83, 89, 78], [69, 84, 66], [67, 65, 78], [69, 77], [83, 85, 66], [69, 83, 67], [70, 83], [71, 83], [82, 83], [85, 83], [83, 80]]
def delL : List UInt8 := [68, 69, 76]
def beg (m L : List UInt8) : Bool := L.take m.length == m
/-- The longest name among ms that L begins with, the first of them being number i. -/
def nameG : List (List UInt8) → Nat → List UInt8 → Nat × Nat → Nat × Nat
  | [], _, _, acc => acc
  | m :: ms, i, L, acc => nameG ms (i + 1) L (if acc.2 < m.length ∧ beg m L = true then (i, m.length) else acc)
def nameE (L : List UInt8) : Nat × Nat := if beg delL L = true then (127, 3) else nameG namesL 0 L (0, 0)
/-- The escape that L begins with, L being what follows the backslash: its number, and how many bytes belong to it; 0: none. -/
def escE (L : List UInt8) : Nat × Nat :=
  if short (hd L) ≠ 0 then (short (hd L), 1)
  else if hd L = 94 then (if 64 ≤ hd (L.drop 1) ∧ hd (L.drop 1) ≤ 95 then (hd (L.drop 1) - 64, 2) else (0, 0))
  else if hd L = 111 then lettE 8 (L.drop 1)
  else if hd L = 120 then lettE 16 (L.drop 1)
  else if 48 ≤ hd L ∧ hd L ≤ 57 then digE 10 L
  else nameE L

theorem short_bd (x : Nat) : short x = 0 ∨ ((7 ≤ short x ∧ short x ≤ 92) ∧ 34 ≤ x ∧ x ≤ 118) := by
  unfold short
  repeat' split
  all_goals omega
theorem run_hd (b : Nat) {R S : List UInt8} (h : hd R = hd S) (hs : Num.run b S = 0) : Num.run b R = 0 := by
  rcases hd_same h with ⟨rfl, rfl⟩ | ⟨x, t, u, rfl, rfl⟩
  · rfl
  · rw [Num.run] at hs ⊢
    split at hs
    · omega
    · rename_i q
      rw [if_neg q]
theorem run_end (b : Nat) : ∀ L : List UInt8, Num.run b (L.drop (Num.run b L)) = 0
  | [] => rfl
  | x :: L => by
    by_cases q : Num.isD b x = true
    · rw [Num.run, if_pos q, List.drop_succ_cons]
      exact run_end b L
    · rw [Num.run, if_neg q, List.drop_zero, Num.run, if_neg q]
theorem run_pre (b : Nat) (L R : List UInt8) (hr : hd R = hd (L.drop (Num.run b L))) : Num.run b (L.take (Num.run b L) ++ R) = Num.run b L := by
  rw [Num.run_app b _ _ (Num.run_allD b L), run_hd b hr (run_end b L), List.length_take, Nat.add_zero, Nat.min_eq_left (Num.run_le b L)]
theorem digE_same (b : Nat) (L R : List UInt8) (hr : hd R = hd (L.drop (Num.run b L))) : digE b (L.take (Num.run b L) ++ R) = digE b L := by
  unfold digE
  rw [run_pre b L R hr, List.take_append_of_le_length (by rw [List.length_take, Nat.min_eq_left (Num.run_le b L)]; exact Nat.le_refl _), List.take_take, Nat.min_self]

theorem beg_three (m L : List UInt8) (h : m.length ≤ 3) : beg m (L.take 3) = beg m L := by
  unfold beg
  rw [List.take_take, Nat.min_eq_left h]
theorem nameG_three : ∀ (ms : List (List UInt8)) (i : Nat) (L : List UInt8) (acc : Nat × Nat), (∀ m ∈ ms, m.length ≤ 3) → nameG ms i (L.take 3) acc = nameG ms i L acc
  | [], _, _, _, _ => rfl
  | m :: ms, i, L, acc, h => by
    rw [nameG, nameG, beg_three m L (h m (by simp))]
    exact nameG_three ms _ L _ (fun x hx => h x (by simp [hx]))
theorem names_short : ∀ m ∈ delL :: namesL, 2 ≤ m.length ∧ m.length ≤ 3 ∧ (∀ x ∈ m, 49 ≤ x.toNat ∧ x.toNat ≤ 90) ∧ 65 ≤ hd m := by decide +kernel
theorem nameE_three (L : List UInt8) : nameE (L.take 3) = nameE L := by
  unfold nameE
  rw [beg_three delL L (by decide), nameG_three namesL 0 L (0, 0) (fun m hm => (names_short m (List.mem_cons_of_mem _ hm)).2.1)]
theorem nameG_is : ∀ (ms : List (List UInt8)) (i : Nat) (L : List UInt8) (acc : Nat × Nat), nameG ms i L acc = acc ∨ ∃ m ∈ ms, beg m L = true ∧ (nameG ms i L acc).2 = m.length ∧ (nameG ms i L acc).1 < i + ms.length
  | [], _, _, _ => .inl rfl
  | m :: ms, i, L, acc => by
    rw [nameG]
    by_cases q : acc.2 < m.length ∧ beg m L = true
    · rw [if_pos q]
      rcases nameG_is ms (i + 1) L (i, m.length) with h | ⟨n, h1, h2, h3, h4⟩
      · exact .inr ⟨m, by simp, q.2, by rw [h], by rw [h, List.length_cons]; simp⟩
      · exact .inr ⟨n, by simp [h1], h2, h3, by rw [List.length_cons]; omega⟩
    · rw [if_neg q]
      rcases nameG_is ms (i + 1) L acc with h | ⟨n, h1, h2, h3, h4⟩
      · exact .inl h
      · exact .inr ⟨n, by simp [h1], h2, h3, by rw [List.length_cons]; omega⟩
theorem nameE_is (L : List UInt8) : nameE L = (0, 0) ∨ ∃ m ∈ delL :: namesL, beg m L = true ∧ (nameE L).2 = m.length ∧ (nameE L).1 ≤ 127 := by
  unfold nameE
  by_cases q : beg delL L = true
  · rw [if_pos q]
    exact .inr ⟨delL, by simp, q, rfl, Nat.le_refl _⟩
  · rw [if_neg q]
    rcases nameG_is namesL 0 L (0, 0) with h | ⟨m, h1, h2, h3, h4⟩
    · exact .inl h
    · exact .inr ⟨m, by simp [h1], h2, h3, by have : namesL.length = 33 := rfl; omega⟩
theorem beg_take (m L : List UInt8) (h : beg m L = true) : L.take m.length = m ∧ m.length ≤ L.length := by
  have e : L.take m.length = m := beq_iff_eq.1 h
  refine ⟨e, ?_⟩
  have := congrArg List.length e
  rw [List.length_take] at this
  omega
theorem nameE_bytes (L : List UInt8) (h : (nameE L).2 ≠ 0) : 2 ≤ (nameE L).2 ∧ (nameE L).2 ≤ 3 ∧ (nameE L).2 ≤ L.length ∧ (∀ x ∈ L.take (nameE L).2, 49 ≤ x.toNat ∧ x.toNat ≤ 90) ∧ 65 ≤ hd L ∧ hd L ≤ 90 := by
  rcases nameE_is L with e | ⟨m, h1, h2, h3, -⟩
  · rw [e] at h
    exact absurd rfl h
  · obtain ⟨e, hl⟩ := beg_take m L h2
    obtain ⟨a, b, c, d⟩ := names_short m h1
    rw [h3, e]
    refine ⟨a, b, hl, c, ?_, ?_⟩
    · rw [← hd_take L m.length (by omega), e]
      exact d
    · rw [← hd_take L m.length (by omega), e]
      cases m with
      | nil => simp at a
      | cons x t => exact (c x (by simp)).2

/-- Which bytes an escape has. -/
theorem escE_bytes (L : List UInt8) (h : (escE L).2 ≠ 0) : (escE L).2 ≤ L.length ∧ (∀ x ∈ L.take (escE L).2, 34 ≤ x.toNat) ∧ 34 ≤ hd L ∧ hd L ≤ 120 ∧ hd L ≠ 38 := by
  have hLne : hd L = 256 → L = [] := by
    cases L with
    | nil => exact fun _ => rfl
    | cons x t =>
      intro e
      have := x.toNat_lt
      simp only [hd] at e
      omega
  have one : ∀ x ∈ L.take 1, x.toNat = hd L := by
    cases L with
    | nil => simp
    | cons y t => simp [hd]
  have lett : ∀ b, (lettE b (L.drop 1)).2 ≠ 0 → 34 ≤ hd L → hd L ≠ 256 → (lettE b (L.drop 1)).2 ≤ L.length ∧ (∀ x ∈ L.take (lettE b (L.drop 1)).2, 34 ≤ x.toNat) := by
    intro b h0 h1 h2
    unfold lettE at h0 ⊢
    split at h0
    · exact absurd rfl h0
    · rename_i q
      rw [if_neg q]
      dsimp only
      obtain ⟨y, t, rfl, hy⟩ := hd_lt L h2
      rw [List.drop_succ_cons, List.drop_zero] at *
      have := Num.run_le b t
      refine ⟨by rw [List.length_cons]; omega, ?_⟩
      intro x hx
      rw [List.take_succ_cons, List.mem_cons] at hx
      rcases hx with rfl | hx
      · omega
      · have := List.all_eq_true.1 (Num.run_allD b t) x hx
        have h3 := of_decide_eq_true this
        have h4 : (48 : Int) ≤ ((x.toNat : Nat) : Int) := by
          unfold Num.dg digitI digV wthn at h3
          simp only [Bool.and_eq_true, decide_eq_true_eq] at h3
          split at h3
          · omega
          · split at h3
            · omega
            · split at h3
              · omega
              · split at h3 <;> omega
        omega
  unfold escE at h ⊢
  by_cases h1 : short (hd L) ≠ 0
  · rw [if_pos h1]
    dsimp only
    have h2 := short_bd (hd L)
    have hne : L ≠ [] := by
      rintro rfl
      exact h1 rfl
    refine ⟨by have := List.length_pos_iff.2 hne; omega, fun x hx => by rw [one x hx]; omega, by omega, by omega, ?_⟩
    intro h38
    rw [h38] at h1
    exact h1 rfl
  · rw [if_neg h1] at h ⊢
    by_cases h2 : hd L = 94
    · rw [if_pos h2] at h ⊢
      obtain ⟨y, t, rfl, hy⟩ := hd_lt L (by omega)
      rw [List.drop_succ_cons, List.drop_zero] at *
      split at h
      · rename_i q
        rw [if_pos q]
        dsimp only
        obtain ⟨z, u, rfl, hz⟩ := hd_lt t (by omega)
        refine ⟨by simp, ?_, by omega, by omega, by omega⟩
        intro x hx
        simp only [List.take_succ_cons, List.take_zero, List.mem_cons, List.not_mem_nil, or_false] at hx
        rcases hx with rfl | rfl <;> omega
      · exact absurd rfl h
    · rw [if_neg h2] at h ⊢
      by_cases h3 : hd L = 111
      · rw [if_pos h3] at h ⊢
        obtain ⟨a, b⟩ := lett 8 h (by omega) (by omega)
        exact ⟨a, b, by omega, by omega, by omega⟩
      · rw [if_neg h3] at h ⊢
        by_cases h4 : hd L = 120
        · rw [if_pos h4] at h ⊢
          obtain ⟨a, b⟩ := lett 16 h (by omega) (by omega)
          exact ⟨a, b, by omega, by omega, by omega⟩
        · rw [if_neg h4] at h ⊢
          by_cases h5 : 48 ≤ hd L ∧ hd L ≤ 57
          · rw [if_pos h5]
            refine ⟨Num.run_le 10 L, ?_, by omega, by omega, by omega⟩
            intro x hx
            have := (Num.dg_ten' x (List.all_eq_true.1 (Num.run_allD 10 L) x hx)).2
            omega
          · rw [if_neg h5] at h ⊢
            obtain ⟨a, b, c, d, e, f⟩ := nameE_bytes L h
            exact ⟨c, fun x hx => by have := d x hx; omega, by omega, by omega, by omega⟩
theorem lettE_same (b : Nat) (L R : List UInt8) (h : (lettE b L).2 ≠ 0) (hr : hd R = hd (L.drop ((lettE b L).2 - 1))) : lettE b (L.take ((lettE b L).2 - 1) ++ R) = lettE b L := by
  unfold lettE at h hr ⊢
  split at h
  · exact absurd rfl h
  · rename_i q
    rw [if_neg q] at hr
    simp only [if_neg q, Nat.add_sub_cancel] at hr ⊢
    rw [run_pre b L R hr, if_neg q, digE_same b L R hr]
/-- An escape hangs on its own bytes and on the byte behind it. -/
theorem escE_same (L R : List UInt8) (h : (escE L).2 ≠ 0) (hr : hd R = hd (L.drop (escE L).2)) : escE (L.take (escE L).2 ++ R) = escE L := by
  obtain ⟨hl, -, hlo, hhi, -⟩ := escE_bytes L h
  have e0 : hd (L.take (escE L).2 ++ R) = hd L := hd_at L R _ 0 hl (Nat.zero_le _) hr
  have dr : ∀ k, k + 1 ≤ L.length → (L.take (k + 1) ++ R).drop 1 = (L.drop 1).take k ++ R := by
    intro k hk
    obtain ⟨y, t, rfl, -⟩ := hd_lt L (by omega)
    simp
  have hh : escE L = if short (hd L) ≠ 0 then (short (hd L), 1)
    else if hd L = 94 then (if 64 ≤ hd (L.drop 1) ∧ hd (L.drop 1) ≤ 95 then (hd (L.drop 1) - 64, 2) else (0, 0))
    else if hd L = 111 then lettE 8 (L.drop 1)
    else if hd L = 120 then lettE 16 (L.drop 1)
    else if 48 ≤ hd L ∧ hd L ≤ 57 then digE 10 L
    else nameE L := rfl
  have hU : ∀ M, escE M = if short (hd M) ≠ 0 then (short (hd M), 1)
    else if hd M = 94 then (if 64 ≤ hd (M.drop 1) ∧ hd (M.drop 1) ≤ 95 then (hd (M.drop 1) - 64, 2) else (0, 0))
    else if hd M = 111 then lettE 8 (M.drop 1)
    else if hd M = 120 then lettE 16 (M.drop 1)
    else if 48 ≤ hd M ∧ hd M ≤ 57 then digE 10 M
    else nameE M := fun _ => rfl
  have hM : escE (L.take (escE L).2 ++ R) = if short (hd L) ≠ 0 then (short (hd L), 1)
    else if hd L = 94 then (if 64 ≤ hd ((L.take (escE L).2 ++ R).drop 1) ∧ hd ((L.take (escE L).2 ++ R).drop 1) ≤ 95 then (hd ((L.take (escE L).2 ++ R).drop 1) - 64, 2) else (0, 0))
    else if hd L = 111 then lettE 8 ((L.take (escE L).2 ++ R).drop 1)
    else if hd L = 120 then lettE 16 ((L.take (escE L).2 ++ R).drop 1)
    else if 48 ≤ hd L ∧ hd L ≤ 57 then digE 10 (L.take (escE L).2 ++ R)
    else nameE (L.take (escE L).2 ++ R) := by
    rw [hU, e0]
  have e1 : hd ((L.take (escE L).2 ++ R).drop 1) = hd (L.drop 1) := hd_at L R _ 1 hl (by omega) hr
  rw [hM, e1]
  generalize escE L = z at *
  by_cases h1 : short (hd L) ≠ 0
  · rw [if_pos h1] at hh ⊢
    exact hh.symm
  · rw [if_neg h1] at hh ⊢
    by_cases h2 : hd L = 94
    · rw [if_pos h2] at hh ⊢
      exact hh.symm
    · rw [if_neg h2] at hh ⊢
      by_cases h3 : hd L = 111
      · rw [if_pos h3] at hh ⊢
        obtain ⟨k, hk⟩ : ∃ k, z.2 = k + 1 := ⟨z.2 - 1, by omega⟩
        rw [hk] at hl hr ⊢
        rw [dr k hl]
        have h9 : (lettE 8 (L.drop 1)).2 - 1 = k := by rw [← hh, hk]; rfl
        rw [← h9, hh]
        exact lettE_same 8 _ R (by rw [← hh]; exact h) (by rw [h9, List.drop_drop, Nat.add_comm 1 k]; exact hr)
      · rw [if_neg h3] at hh ⊢
        by_cases h4 : hd L = 120
        · rw [if_pos h4] at hh ⊢
          obtain ⟨k, hk⟩ : ∃ k, z.2 = k + 1 := ⟨z.2 - 1, by omega⟩
          rw [hk] at hl hr ⊢
          rw [dr k hl]
          have h9 : (lettE 16 (L.drop 1)).2 - 1 = k := by rw [← hh, hk]; rfl
          rw [← h9, hh]
          exact lettE_same 16 _ R (by rw [← hh]; exact h) (by rw [h9, List.drop_drop, Nat.add_comm 1 k]; exact hr)
        · rw [if_neg h4] at hh ⊢
          by_cases h5 : 48 ≤ hd L ∧ hd L ≤ 57
          · rw [if_pos h5] at hh ⊢
            have h9 : z.2 = Num.run 10 L := by rw [hh]; rfl
            rw [h9] at hr ⊢
            rw [digE_same 10 L R hr, hh]
          · rw [if_neg h5] at hh ⊢
            have h9 := nameE_bytes L (by rw [← hh]; exact h)
            rw [← hh] at h9
            refine Eq.trans ?_ hh.symm
            rw [← nameE_three, ← nameE_three L]
            congr 1
            rcases (show z.2 = 2 ∨ z.2 = 3 by omega) with e | e
            · rw [e] at hl hr ⊢
              rcases hd_same hr with ⟨rfl, q⟩ | ⟨x, t, u, rfl, q⟩
              · rw [List.append_nil, List.take_take]
                have := congrArg List.length q
                rw [List.length_drop] at this
                simp at this
                rw [List.take_of_length_le (show L.length ≤ 3 by omega), List.take_of_length_le (by omega)]
              · have e3 : L = L.take 2 ++ x :: u := by rw [← q]; exact (List.take_append_drop 2 L).symm
                have hl2 : (L.take 2).length = 2 := by rw [List.length_take]; omega
                conv => rhs; rw [e3]
                rw [List.take_append, List.take_append, hl2]
                rfl
            · rw [e] at hl ⊢
              have hl3 : (L.take 3).length = 3 := by rw [List.length_take]; omega
              rw [List.take_append, hl3, List.take_take]
              simp
end Go.Proofs.YtmgclgojmckfhaaGreatDoor.Qt
/-
  How a literal is read, piece by piece: what a piece is, what its bytes may be, that it hangs on them and on the byte behind alone; a literal is its quote, its pieces and its quote; read anew by itself, or with other gaps, it has the same pieces. No program is run here.
-/
namespace Go.Proofs.YtmgclgojmckfhaaGreatDoor.Qt
open Go.Lib Gly
open Wrd (rn wd)

/-- How many bytes the gap has that a row begins with, its backslash the first; 0: none. -/
def gapN (L : List UInt8) : Nat := if Wrd.run blkP (L.drop 1) ≠ 0 ∧ hd (L.drop (1 + Wrd.run blkP (L.drop 1))) = 92 then Wrd.run blkP (L.drop 1) + 2 else 0
/-- May a rune of that many bytes stand for itself? -/
def mayB (c : Int) (n : Nat) : Bool := if c = 65533 ∧ n = 1 then false else if classI c = 0 then false else if classI c = 1 then decide (c = 32) else true
/-- A piece: its form (0 a character, 1 nothing, 2 a gap), its number, its bytes. -/
structure Pc where
  form : Nat
  num : Nat
  bytes : List UInt8
/-- The piece that a row begins with, or what is wrong. -/
def pieceL (L : List UInt8) : Except Int Pc :=
  if hd L = 92 then
    (if hd (L.drop 1) = 38 then .ok ⟨1, 0, L.take 2⟩
    else if gapN L ≠ 0 then .ok ⟨2, 0, L.take (gapN L)⟩
    else if (escE (L.drop 1)).2 = 0 ∨ 1114111 < (escE (L.drop 1)).1 then .error 51
    else .ok ⟨0, (escE (L.drop 1)).1, L.take (1 + (escE (L.drop 1)).2)⟩)
  else if L ≠ [] ∧ mayB (rn L) (wd L) = true then .ok ⟨0, (rn L).toNat, L.take (wd L)⟩
  else .error 50

theorem run_blk_le (L : List UInt8) : Wrd.run blkP L ≤ L.length := Wrd.run_le blkP L.length L (Nat.le_refl _)
theorem run_blk_zero (L : List UInt8) : Wrd.run blkP L = 0 ↔ L = [] ∨ blkP (rn L) = false := by
  constructor
  · intro h
    by_cases hn : L = []
    · exact .inl hn
    · refine .inr ?_
      cases hb : blkP (rn L) with
      | false => rfl
      | true =>
        have h1 := Wrd.run_pos blkP L hn hb
        have h2 := Wrd.wd_pos L
        omega
  · exact Wrd.run_stop blkP L
theorem gap_cases (L : List UInt8) : gapN L = 0 ∨ (∃ k, gapN L = k + 2 ∧ 1 ≤ k ∧ Wrd.run blkP (L.drop 1) = k ∧ hd (L.drop (1 + k)) = 92 ∧ k + 2 ≤ L.length) := by
  unfold gapN
  split
  · rename_i h
    refine .inr ⟨_, rfl, by omega, rfl, h.2, ?_⟩
    rcases Nat.lt_or_ge (1 + Wrd.run blkP (L.drop 1)) L.length with q | q
    · omega
    · have := h.2
      rw [List.drop_eq_nil_of_le q] at this
      simp [hd] at this
  · exact .inl rfl
/-- What kinds of piece there are. -/
theorem piece_cases (L : List UInt8) (p : Pc) (h : pieceL L = .ok p) :
    (hd L = 92 ∧ hd (L.drop 1) = 38 ∧ p = ⟨1, 0, L.take 2⟩) ∨
    (hd L = 92 ∧ hd (L.drop 1) ≠ 38 ∧ gapN L ≠ 0 ∧ p = ⟨2, 0, L.take (gapN L)⟩) ∨
    (hd L = 92 ∧ hd (L.drop 1) ≠ 38 ∧ gapN L = 0 ∧ (escE (L.drop 1)).2 ≠ 0 ∧ (escE (L.drop 1)).1 ≤ 1114111 ∧ p = ⟨0, (escE (L.drop 1)).1, L.take (1 + (escE (L.drop 1)).2)⟩) ∨
    (hd L ≠ 92 ∧ L ≠ [] ∧ mayB (rn L) (wd L) = true ∧ p = ⟨0, (rn L).toNat, L.take (wd L)⟩) := by
  unfold pieceL at h
  split at h
  · rename_i h1
    split at h
    · rename_i h2
      injection h with h
      exact .inl ⟨h1, h2, h.symm⟩
    · rename_i h2
      split at h
      · rename_i h3
        injection h with h
        exact .inr (.inl ⟨h1, h2, h3, h.symm⟩)
      · rename_i h3
        split at h
        · cases h
        · rename_i h4
          injection h with h
          exact .inr (.inr (.inl ⟨h1, h2, by omega, by omega, by omega, h.symm⟩))
  · rename_i h1
    split at h
    · rename_i h2
      injection h with h
      exact .inr (.inr (.inr ⟨h1, h2.1, h2.2, h.symm⟩))
    · cases h
theorem len_of_hd (L : List UInt8) (n k : Nat) (h : hd (L.drop k) = n) (hn : n < 256) : k + 1 ≤ L.length := by
  rcases Nat.lt_or_ge k L.length with q | q
  · omega
  · rw [List.drop_eq_nil_of_le q] at h
    simp only [hd] at h
    omega
/-- A piece has at least one byte; its bytes are the row's first ones. -/
theorem piece_len (L : List UInt8) (p : Pc) (h : pieceL L = .ok p) : 1 ≤ p.bytes.length ∧ p.bytes.length ≤ L.length ∧ p.bytes = L.take p.bytes.length := by
  have key : ∀ n, 1 ≤ n → n ≤ L.length → p.bytes = L.take n → 1 ≤ p.bytes.length ∧ p.bytes.length ≤ L.length ∧ p.bytes = L.take p.bytes.length := by
    intro n h1 h2 h3
    have hl : p.bytes.length = n := by rw [h3, List.length_take]; omega
    rw [hl]
    exact ⟨h1, h2, h3⟩
  rcases piece_cases L p h with ⟨h1, h2, rfl⟩ | ⟨h1, h2, h3, rfl⟩ | ⟨h1, h2, h3, h4, h5, rfl⟩ | ⟨h1, h2, h3, rfl⟩
  · exact key 2 (by omega) (len_of_hd L 38 1 h2 (by omega)) rfl
  · rcases gap_cases L with q | ⟨k, q1, q2, q3, q4, q5⟩
    · exact absurd q h3
    · exact key _ (by omega) (by omega) rfl
  · have := (escE_bytes _ h4).1
    rw [List.length_drop] at this
    exact key _ (by omega) (by omega) rfl
  · exact key _ (Wrd.wd_pos L) (Wrd.wd_le L h2) rfl
theorem piece_err (L : List UInt8) (x : Int) (h : pieceL L = .error x) : x = 50 ∨ x = 51 := by
  unfold pieceL at h
  split at h
  · split at h
    · cases h
    · split at h
      · cases h
      · split at h
        · injection h with h
          omega
        · cases h
  · split at h
    · cases h
    · injection h with h
      omega
/-- A gap hangs on its own bytes. -/
theorem gap_same (L R : List UInt8) (h : gapN L ≠ 0) : gapN (L.take (gapN L) ++ R) = gapN L := by
  rcases gap_cases L with q | ⟨k, q1, q2, q3, q4, q5⟩
  · exact absurd q h
  · rw [q1]
    obtain ⟨y, t, rfl, -⟩ := hd_lt L (by intro e; cases L with | nil => simp at q5 | cons y t => have := y.toNat_lt; simp only [hd] at e; omega)
    rw [List.drop_succ_cons, List.drop_zero] at q3
    rw [Nat.add_comm 1 k, List.drop_succ_cons] at q4
    obtain ⟨z, u, hz, hz2⟩ := hd_cons _ _ q4 (by omega)
    have hl : k ≤ t.length := by rw [List.length_cons] at q5; omega
    have ht : t = t.take k ++ z :: u := by rw [← hz, List.take_append_drop]
    have hM : ((y :: t).take (k + 2) ++ R).drop 1 = t.take k ++ z :: R := by
      conv => lhs; rw [ht]
      rw [List.take_succ_cons, List.cons_append, List.drop_succ_cons, List.drop_zero, List.take_append, List.length_take, Nat.min_eq_left hl, List.take_take, Nat.min_eq_right (by omega)]
      rw [show k + 1 - k = 1 by omega]
      simp
    have hlk : (t.take k).length = k := by rw [List.length_take]; omega
    have hdr : (t.take k ++ z :: R).drop k = z :: R := by
      conv => lhs; arg 1; rw [← hlk]
      exact List.drop_left
    have hrun : Wrd.run blkP (t.take k ++ z :: R) = k := by
      rw [← q3]
      refine Wrd.run_same blkP blk_bad t.length t _ (Nat.le_refl _) ?_ ?_ (.inr ?_)
      · rw [q3, List.take_append_of_le_length (by omega), List.take_take, Nat.min_self]
      · rw [q3, List.length_append, hlk]
        omega
      · rw [q3, hdr, (rn_ascii z R (by omega)).1, hz2]
        exact blk_slash
    unfold gapN
    rw [hM, hrun, Nat.add_comm 1 k, if_pos]
    refine ⟨by omega, ?_⟩
    have : ((y :: t).take (k + 2) ++ R).drop (k + 1) = z :: R := by
      rw [Nat.add_comm k 1, ← List.drop_drop, hM, hdr]
    rw [this]
    exact hz2
theorem gap_head (L : List UInt8) (h : gapN L ≠ 0) : blkP ((hd (L.drop 1) : Nat) : Int) = true ∧ hd (L.drop 1) ≤ 32 := by
  rcases gap_cases L with q | ⟨k, q1, q2, q3, q4, q5⟩
  · exact absurd q h
  · have hne : L.drop 1 ≠ [] := by
      intro e
      have := congrArg List.length e
      rw [List.length_drop] at this
      simp at this
      omega
    cases hb : blkP (rn (L.drop 1)) with
    | false => rw [(run_blk_zero _).2 (.inr hb)] at q3; omega
    | true =>
      obtain ⟨e, -⟩ := blk_head _ hb hne
      have := blk_small _ hb
      rw [e]
      exact ⟨hb, by omega⟩
theorem gap_none (L : List UInt8) (h1 : 34 ≤ hd (L.drop 1)) (h2 : hd (L.drop 1) < 128) : gapN L = 0 := by
  rcases Nat.eq_zero_or_pos (gapN L) with h | h
  · exact h
  · have := (gap_head L (by omega)).2
    omega
/-- A piece hangs on its own bytes and on the byte behind. -/
theorem piece_same (L R : List UInt8) (p : Pc) (h : pieceL L = .ok p) (hr : hd R = hd (L.drop p.bytes.length)) : pieceL (p.bytes ++ R) = .ok p := by
  obtain ⟨l1, l2, l3⟩ := piece_len L p h
  have e0 : hd (p.bytes ++ R) = hd L := by rw [l3]; exact hd_at L R _ 0 l2 (Nat.zero_le _) hr
  have e1 : hd ((p.bytes ++ R).drop 1) = hd (L.drop 1) := by rw [l3]; exact hd_at L R _ 1 l2 l1 hr
  rcases piece_cases L p h with ⟨h1, h2, rfl⟩ | ⟨h1, h2, h3, rfl⟩ | ⟨h1, h2, h3, h4, h5, rfl⟩ | ⟨h1, h2, h3, rfl⟩
  · unfold pieceL
    dsimp only at *
    rw [e0, if_pos h1, e1, if_pos h2]
    have hl : (L.take 2).length = 2 := by rw [List.length_take]; have := len_of_hd L 38 1 h2 (by omega); omega
    rw [List.take_append_of_le_length (by omega), List.take_take]
    rfl
  · unfold pieceL
    dsimp only at *
    have hg := gap_same L R h3
    rw [e0, if_pos h1, e1, if_neg h2, hg, if_pos h3]
    have hl : (L.take (gapN L)).length = gapN L := by
      rcases gap_cases L with q | ⟨k, q1, q2, q3, q4, q5⟩
      · exact absurd q h3
      · rw [List.length_take]; omega
    rw [List.take_append_of_le_length (by omega), List.take_take, Nat.min_self]
  · dsimp only at *
    obtain ⟨b1, b2, b3, b4, b5⟩ := escE_bytes _ h4
    obtain ⟨y, t, rfl, -⟩ := hd_cons L 92 h1 (by omega)
    rw [List.drop_succ_cons, List.drop_zero] at *
    have hl : ((y :: t).take (1 + (escE t).2)).length = 1 + (escE t).2 := by rw [List.length_take, List.length_cons]; omega
    rw [hl, Nat.add_comm 1, List.drop_succ_cons] at hr
    have hM : (y :: t).take (1 + (escE t).2) ++ R = y :: (t.take (escE t).2 ++ R) := by rw [Nat.add_comm 1, List.take_succ_cons, List.cons_append]
    rw [hM] at e0 e1 ⊢
    rw [List.drop_succ_cons, List.drop_zero] at e1
    have hg : gapN (y :: (t.take (escE t).2 ++ R)) = 0 := gap_none _ (by rw [List.drop_succ_cons, List.drop_zero, e1]; exact b3) (by rw [List.drop_succ_cons, List.drop_zero, e1]; omega)
    unfold pieceL
    rw [List.drop_succ_cons, List.drop_zero, e0, if_pos h1, e1, if_neg h2, hg, if_neg (by omega), escE_same t R h4 hr, if_neg (by omega)]
    have hx : (y :: (t.take (escE t).2 ++ R)).take (1 + (escE t).2) = (y :: t).take (1 + (escE t).2) := by
      rw [Nat.add_comm 1, List.take_succ_cons, List.take_succ_cons, List.take_append_of_le_length (by rw [List.length_take]; omega), List.take_take, Nat.min_self]
    rw [hx]
  · dsimp only at *
    have hl : (L.take (wd L)).length = wd L := by rw [List.length_take]; have := Wrd.wd_le L h2; omega
    have hbad : decodeL L ≠ (65533, 1) := by
      intro e
      unfold rn wd at h3
      rw [e] at h3
      exact absurd h3 (by decide +kernel)
    have htk : (L.take (wd L) ++ R).take (wd L) = L.take (wd L) := by rw [List.take_append_of_le_length (by omega), List.take_take, Nat.min_self]
    have hd' := dec_same L (L.take (wd L) ++ R) hbad (by rw [List.length_append]; omega) htk
    have hrn : rn (L.take (wd L) ++ R) = rn L := by unfold rn; rw [hd']
    have hwd : wd (L.take (wd L) ++ R) = wd L := by unfold wd at hd' ⊢; rw [hd']
    unfold pieceL
    rw [e0, if_neg h1, hrn, hwd, if_pos ⟨by intro e; have h8 := congrArg List.length e; rw [List.length_append, hl, List.length_nil] at h8; have := Wrd.wd_pos L; omega, h3⟩, htk]

/-- A gap made narrow. -/
def narrow (p : Pc) : Pc := if p.form = 2 then ⟨2, 0, [92, 32, 92]⟩ else p
theorem piece_head (L : List UInt8) (p : Pc) (h : pieceL L = .ok p) : hd p.bytes = hd L ∧ p.bytes ≠ [] := by
  obtain ⟨l1, l2, l3⟩ := piece_len L p h
  refine ⟨by rw [l3]; exact hd_take L _ (by omega), ?_⟩
  intro e
  rw [e] at l1
  simp at l1
theorem mayB_ascii (c : Int) (n : Nat) (h : mayB c n = true) : 32 ≤ c := by
  unfold mayB at h
  split at h
  · cases h
  · split at h
    · cases h
    · rename_i h0
      split at h
      · have := of_decide_eq_true h
        omega
      · rename_i h1
        by_cases q : 32 ≤ c
        · exact q
        · exfalso
          unfold classI blankB smallB largeB decB specB quotB symbB nothB wthn at h0 h1
          simp only [Bool.or_eq_true, Bool.and_eq_true, decide_eq_true_eq, beq_iff_eq, bne_iff_ne] at h0 h1
          repeat' split at h1
          all_goals first | omega | (repeat' split at h0) 
          all_goals omega
/-- No byte of a piece that is no gap is below 32; nor of one whose gap is narrow. -/
theorem narrow_bytes (L : List UInt8) (p : Pc) (h : pieceL L = .ok p) : ∀ x ∈ (narrow p).bytes, 32 ≤ x.toNat := by
  intro x hx
  unfold narrow at hx
  by_cases q : p.form = 2
  · rw [if_pos q] at hx
    simp only [List.mem_cons, List.not_mem_nil, or_false] at hx
    rcases hx with rfl | rfl | rfl <;> decide
  · rw [if_neg q] at hx
    rcases piece_cases L p h with ⟨h1, h2, rfl⟩ | ⟨h1, h2, h3, rfl⟩ | ⟨h1, h2, h3, h4, h5, rfl⟩ | ⟨h1, h2, h3, rfl⟩
    · obtain ⟨y, t, rfl, hy⟩ := hd_cons L 92 h1 (by omega)
      rw [List.drop_succ_cons, List.drop_zero] at h2
      obtain ⟨z, u, rfl, hz⟩ := hd_cons t 38 h2 (by omega)
      simp only [List.take_succ_cons, List.take_zero, List.mem_cons, List.not_mem_nil, or_false] at hx
      rcases hx with rfl | rfl <;> omega
    · exact absurd rfl q
    · dsimp only at hx
      obtain ⟨y, t, rfl, hy⟩ := hd_cons L 92 h1 (by omega)
      rw [List.drop_succ_cons, List.drop_zero] at *
      rw [Nat.add_comm 1, List.take_succ_cons, List.mem_cons] at hx
      rcases hx with rfl | hx
      · omega
      · have := (escE_bytes t h4).2.1 x hx
        omega
    · dsimp only at hx
      have hm := mayB_ascii _ _ h3
      by_cases q : rn L < 128
      · obtain ⟨w1, w2⟩ := ascii_rn L q
        rw [w1] at hx
        cases L with
        | nil => exact absurd rfl h2
        | cons y t =>
          simp only [List.take_succ_cons, List.take_zero, List.mem_cons, List.not_mem_nil, or_false] at hx
          subst hx
          have : (List.getD (x :: t) 0 0) = x := rfl
          rw [this] at w2
          omega
      · have := rn_wide L (by omega) (by
          intro e
          unfold rn wd at h3
          rw [e] at h3
          exact absurd h3 (by decide +kernel)) x hx
        omega
end Go.Proofs.YtmgclgojmckfhaaGreatDoor.Qt
/-
  Numbers as limbs and as decimal digits: what a row of limbs is worth, how it is multiplied, its text; noughts ahead and behind. No program is run here.
-/
namespace Go.Proofs.YtmgclgojmckfhaaGreatDoor.Num
open Go.Lib Gly

/-- The same for digits of the base 10. -/
def lowd (c : Nat) : List Nat := if h : c = 0 then [] else c % 10 :: lowd (c / 10)
termination_by c
decreasing_by omega
def dv : List Nat → Nat
  | [] => 0
  | x :: r => x + 10 * dv r
end Go.Proofs.YtmgclgojmckfhaaGreatDoor.Num
/-
  A literal as its pieces: what is read of a row that begins with a quote; a literal by itself, or with narrow gaps, has the same pieces; what characters are written as has these characters. No program is run here.
-/
namespace Go.Proofs.YtmgclgojmckfhaaGreatDoor.Qt
open Go.Lib Gly
open Wrd (rn wd)

/-- What has been read: the pieces, where it ends (or where the error is), the error. -/
structure Rd where
  ps : List Pc
  pos : Nat
  err : Int
/-- The pieces of a text up to its quote; f: more rounds than there are bytes. -/
def txtL : Nat → List UInt8 → Rd
  | 0, _ => ⟨[], 0, 50⟩
  | f + 1, L =>
    if hd L = 34 then ⟨[], 1, 0⟩
    else match pieceL L with
      | .error e => ⟨[], 0, e⟩
      | .ok p => ⟨p :: (txtL f (L.drop p.bytes.length)).ps, p.bytes.length + (txtL f (L.drop p.bytes.length)).pos, (txtL f (L.drop p.bytes.length)).err⟩
/-- A character up to its quote. -/
def chrL (L : List UInt8) : Rd :=
  if hd L = 39 then ⟨[], 0, 50⟩
  else match pieceL L with
    | .error e => ⟨[], 0, e⟩
    | .ok p => if p.form ≠ 0 then ⟨[], 0, 51⟩ else if hd (L.drop p.bytes.length) = 39 then ⟨[p], p.bytes.length + 1, 0⟩ else ⟨[], p.bytes.length, 50⟩
def readL (L : List UInt8) : Rd := if hd L = 39 then chrL (L.drop 1) else txtL L.length (L.drop 1)
def quoted (L : List UInt8) : Bool := hd L == 34 || hd L == 39
/-- Scan's answers at a row that begins at byte n. -/
def scanL (n : Nat) (L : List UInt8) : Int × Int × Int :=
  if quoted L = true then ((if (readL L).err = 0 then (if hd L = 39 then 13 else 14) else 0), ((n + 1 + (readL L).pos : Nat) : Int), (readL L).err) else (0, 0, 0)
def chs (ps : List Pc) : List Nat := (ps.filter fun p => p.form == 0).map Pc.num
def flat (ps : List Pc) : List UInt8 := ps.flatMap Pc.bytes
theorem flat_cons (p : Pc) (ps : List Pc) : flat (p :: ps) = p.bytes ++ flat ps := rfl
theorem flat_app (ps qs : List Pc) : flat (ps ++ qs) = flat ps ++ flat qs := by unfold flat; rw [List.flatMap_append]
/-- A text's pieces, and what stands behind its quote. -/
inductive Txt : List UInt8 → List Pc → List UInt8 → Prop
  | last (r : List UInt8) : Txt (34 :: r) [] r
  | more {L r : List UInt8} {p : Pc} {ps : List Pc} (h0 : hd L ≠ 34) (h1 : pieceL L = .ok p) (h2 : Txt (L.drop p.bytes.length) ps r) : Txt L (p :: ps) r
theorem Txt.flat {L r : List UInt8} {ps : List Pc} (h : Txt L ps r) : L = Qt.flat ps ++ 34 :: r := by
  induction h with
  | last r => rfl
  | @more L r p ps h0 h1 h2 ih =>
    obtain ⟨l1, l2, l3⟩ := piece_len L p h1
    rw [flat_cons, List.append_assoc, ← ih]
    conv => rhs; arg 1; rw [l3]
    rw [List.take_append_drop]
theorem Txt.of_read : ∀ (f : Nat) (L : List UInt8), (txtL f L).err = 0 → Txt L (txtL f L).ps (L.drop (txtL f L).pos) ∧ (txtL f L).pos = (Qt.flat (txtL f L).ps).length + 1 := by
  intro f
  induction f with
  | zero =>
    intro L h
    exact absurd h (by show ¬ ((50 : Int) = 0); decide)
  | succ f ih =>
    intro L h
    unfold txtL at h ⊢
    by_cases q : hd L = 34
    · rw [if_pos q]
      obtain ⟨y, t, rfl, hy⟩ := hd_cons L 34 q (by omega)
      obtain rfl : y = 34 := UInt8.toNat_inj.1 hy
      exact ⟨.last _, rfl⟩
    · rw [if_neg q] at h ⊢
      cases hp : pieceL L with
      | error e =>
        rw [hp] at h
        dsimp only at h
        have := piece_err L e hp
        omega
      | ok p =>
        rw [hp] at h
        dsimp only at h ⊢
        obtain ⟨i1, i2⟩ := ih _ h
        rw [List.drop_drop] at i1
        refine ⟨.more q hp i1, ?_⟩
        rw [i2, flat_cons, List.length_append]
        omega
theorem Txt.read {L r : List UInt8} {ps : List Pc} (h : Txt L ps r) : ∀ f, L.length ≤ f → txtL f L = ⟨ps, (Qt.flat ps).length + 1, 0⟩ := by
  induction h with
  | last r =>
    intro f hf
    cases f with
    | zero => simp at hf
    | succ f => rfl
  | @more L r p ps h0 h1 h2 ih =>
    intro f hf
    obtain ⟨l1, l2, l3⟩ := piece_len L p h1
    cases f with
    | zero => omega
    | succ f =>
      unfold txtL
      rw [if_neg h0, h1]
      dsimp only
      rw [ih f (by rw [List.length_drop]; omega), flat_cons, List.length_append]
      congr 1
theorem Txt.bytes {L r : List UInt8} {ps : List Pc} (h : Txt L ps r) : ∀ x ∈ Qt.flat (ps.map narrow), 32 ≤ x.toNat := by
  induction h with
  | last r => intro x hx; simp [Qt.flat] at hx
  | @more L r p ps h0 h1 h2 ih =>
    intro x hx
    rw [List.map_cons, flat_cons, List.mem_append] at hx
    rcases hx with hx | hx
    · exact narrow_bytes L p h1 x hx
    · exact ih x hx
/-- A text with other pieces in the place of its own, each read as it stands and begun with the same byte. -/
theorem Txt.turn (g : Pc → Pc) (hg : ∀ L R p, pieceL L = .ok p → hd R = hd (L.drop p.bytes.length) → pieceL ((g p).bytes ++ R) = .ok (g p)) (hh : ∀ L p, pieceL L = .ok p → hd (g p).bytes = hd L ∧ (g p).bytes ≠ [])
    {L r : List UInt8} {ps : List Pc} (h : Txt L ps r) (r' : List UInt8) : Txt (Qt.flat (ps.map g) ++ 34 :: r') (ps.map g) r' ∧ hd (Qt.flat (ps.map g) ++ 34 :: r') = hd L := by
  induction h with
  | last r => exact ⟨.last r', rfl⟩
  | @more L r p ps h0 h1 h2 ih =>
    obtain ⟨i1, i2⟩ := ih
    obtain ⟨k1, k2⟩ := hh L p h1
    have e : Qt.flat ((p :: ps).map g) ++ 34 :: r' = (g p).bytes ++ (Qt.flat (ps.map g) ++ 34 :: r') := by rw [List.map_cons, flat_cons, List.append_assoc]
    have eh : hd ((g p).bytes ++ (Qt.flat (ps.map g) ++ 34 :: r')) = hd L := by rw [hd_app _ _ k2, k1]
    rw [e]
    refine ⟨.more (by rw [eh]; exact h0) (hg L _ p h1 i2) ?_, eh⟩
    rw [List.drop_left]
    exact i1
theorem Txt.alone {L r : List UInt8} {ps : List Pc} (h : Txt L ps r) (r' : List UInt8) : Txt (Qt.flat ps ++ 34 :: r') ps r' := by
  have := (Txt.turn id (fun L R p h1 h2 => piece_same L R p h1 h2) (fun L p h1 => piece_head L p h1) h r').1
  rw [List.map_id] at this
  exact this
/-- What a right character literal is. -/
theorem chr_ok (L : List UInt8) (h : (chrL L).err = 0) : ∃ p, hd L ≠ 39 ∧ pieceL L = .ok p ∧ p.form = 0 ∧ hd (L.drop p.bytes.length) = 39 ∧ chrL L = ⟨[p], p.bytes.length + 1, 0⟩ := by
  have hc := h
  unfold chrL at h
  split at h
  · exact absurd h (by show ¬ ((50 : Int) = 0); decide)
  · rename_i h0
    cases hp : pieceL L with
    | error e =>
      rw [hp] at h
      dsimp only at h
      have := piece_err L e hp
      omega
    | ok p =>
      rw [hp] at h
      dsimp only at h
      split at h
      · exact absurd h (by show ¬ ((51 : Int) = 0); decide)
      · rename_i h1
        split at h
        · rename_i h2
          refine ⟨p, h0, rfl, by omega, h2, ?_⟩
          unfold chrL
          rw [if_neg h0, hp]
          dsimp only
          rw [if_neg h1, if_pos h2]
        · exact absurd h (by show ¬ ((50 : Int) = 0); decide)
theorem chr_alone (L R : List UInt8) (p : Pc) (h0 : hd L ≠ 39) (h1 : pieceL L = .ok p) (h2 : p.form = 0) (h3 : hd (L.drop p.bytes.length) = 39) (hr : hd R = 39) : chrL (p.bytes ++ R) = ⟨[p], p.bytes.length + 1, 0⟩ := by
  have e := piece_same L R p h1 (by rw [hr, h3])
  have eh : hd (p.bytes ++ R) = hd L := by rw [hd_app _ _ (piece_head L p h1).2, (piece_head L p h1).1]
  unfold chrL
  rw [eh, if_neg h0, e]
  dsimp only
  rw [if_neg (by omega), List.drop_left, if_pos hr]

theorem quoted_is (L : List UInt8) (h : quoted L = true) : hd L = 34 ∨ hd L = 39 := by
  unfold quoted at h
  rw [Bool.or_eq_true, beq_iff_eq, beq_iff_eq] at h
  exact h
/-- What a right literal is: its quote, its pieces, its quote. -/
theorem read_ok (L : List UInt8) (hq : quoted L = true) (h : (readL L).err = 0) :
    (hd L = 34 ∧ ∃ r, L = 34 :: (flat (readL L).ps ++ 34 :: r) ∧ Txt (L.drop 1) (readL L).ps r ∧ (readL L).pos = (flat (readL L).ps).length + 1) ∨
    (hd L = 39 ∧ ∃ p r, (readL L).ps = [p] ∧ p.form = 0 ∧ L = 39 :: (p.bytes ++ 39 :: r) ∧ pieceL (L.drop 1) = .ok p ∧ hd (L.drop 1) ≠ 39 ∧ hd ((L.drop 1).drop p.bytes.length) = 39 ∧ (readL L).pos = p.bytes.length + 1) := by
  rcases quoted_is L hq with q | q
  · refine .inl ⟨q, ?_⟩
    unfold readL at h ⊢
    rw [if_neg (by omega)] at h ⊢
    obtain ⟨h1, h2⟩ := Txt.of_read _ _ h
    refine ⟨_, ?_, h1, h2⟩
    obtain ⟨y, t, rfl, hy⟩ := hd_cons L 34 q (by omega)
    obtain rfl : y = 34 := UInt8.toNat_inj.1 hy
    congr 1
    exact h1.flat
  · refine .inr ⟨q, ?_⟩
    unfold readL at h ⊢
    rw [if_pos q] at h ⊢
    obtain ⟨p, h0, h1, h2, h3, h4⟩ := chr_ok _ h
    obtain ⟨y, t, rfl, hy⟩ := hd_cons L 39 q (by omega)
    obtain rfl : y = 39 := UInt8.toNat_inj.1 hy
    rw [List.drop_succ_cons, List.drop_zero] at *
    obtain ⟨z, u, hz, hz2⟩ := hd_cons _ 39 h3 (by omega)
    obtain rfl : z = 39 := UInt8.toNat_inj.1 hz2
    obtain ⟨l1, l2, l3⟩ := piece_len t p h1
    refine ⟨p, u, by rw [h4], h2, ?_, h1, h0, h3, by rw [h4]⟩
    congr 1
    rw [← hz]
    conv => rhs; arg 1; rw [l3]
    rw [List.take_append_drop]
theorem read_text (t r : List UInt8) (ps : List Pc) (h : Txt t ps r) : readL (34 :: t) = ⟨ps, (flat ps).length + 1, 0⟩ ∧ quoted (34 :: t) = true := by
  refine ⟨?_, rfl⟩
  unfold readL
  rw [if_neg (by show ¬ ((34 : Nat) = 39); decide), List.drop_succ_cons, List.drop_zero]
  exact h.read _ (by rw [List.length_cons]; omega)
/-- A right literal by itself. -/
theorem read_alone (L : List UInt8) (hq : quoted L = true) (h : (readL L).err = 0) : readL (L.take (1 + (readL L).pos)) = readL L ∧ quoted (L.take (1 + (readL L).pos)) = true ∧ hd (L.take (1 + (readL L).pos)) = hd L ∧ (L.take (1 + (readL L).pos)).length = 1 + (readL L).pos ∧ 1 + (readL L).pos ≤ L.length := by
  have hh : hd (L.take (1 + (readL L).pos)) = hd L := hd_take L _ (by omega)
  have hqq : quoted (L.take (1 + (readL L).pos)) = true := by unfold quoted at hq ⊢; rw [hh]; exact hq
  have hlen : 1 + (readL L).pos ≤ L.length := by
    rcases read_ok L hq h with ⟨q, r, e, h1, h2⟩ | ⟨q, p, r, h0, h1, e, h2, h3, h4, h5⟩
    · have := congrArg List.length e
      rw [List.length_cons, List.length_append, List.length_cons] at this
      omega
    · have := congrArg List.length e
      rw [List.length_cons, List.length_append, List.length_cons] at this
      omega
  refine ⟨?_, hqq, hh, by rw [List.length_take]; omega, hlen⟩
  rcases read_ok L hq h with ⟨q, r, e, h1, h2⟩ | ⟨q, p, r, h0, h1, e, h2, h3, h4, h5⟩
  · have hR : readL L = ⟨(readL L).ps, (readL L).pos, 0⟩ := by rw [← h]
    have e2 : L.take (1 + (readL L).pos) = 34 :: (flat (readL L).ps ++ [34]) := by
      conv => lhs; arg 2; rw [e]
      rw [h2, Nat.add_comm 1, List.take_succ_cons, List.take_append]
      simp
      exact List.take_of_length_le (Nat.le_succ _)
    rw [e2, (read_text _ _ _ (h1.alone [])).1]
    rw [hR]
    congr 1
    exact h2.symm
  · have e2 : L.take (1 + (readL L).pos) = 39 :: (p.bytes ++ [39]) := by
      conv => lhs; arg 2; rw [e]
      rw [h5, Nat.add_comm 1, List.take_succ_cons, List.take_append]
      simp
      exact List.take_of_length_le (Nat.le_succ _)
    have hR : readL L = ⟨[p], p.bytes.length + 1, 0⟩ := by rw [← h0, ← h5, ← h]
    rw [hR] at e2 ⊢
    rw [e2]
    unfold readL
    rw [if_pos (show hd (39 :: (p.bytes ++ [39])) = 39 from rfl), List.drop_succ_cons, List.drop_zero]
    exact chr_alone _ _ p h3 h2 h1 h4 rfl
def isDig (c : Nat) : Bool := decide (48 ≤ c) && decide (c ≤ 57)
end Go.Proofs.YtmgclgojmckfhaaGreatDoor.Qt
