/-
  Words as rows of bytes: the runes that stand first, how far those of one kind go, which word begins a row; that what a row begins with hangs on the bytes of that word and on what follows them alone. No program is run here.
-/
import Derived.Test.YtcbjcgbfdniieaaDoorGlyLowc
import Derived.Test.YtcbjcgbfdniieaaDoorGlyMath
import Derived.Lib.MapLaws
namespace Go.Proofs.YtcbjcgbfdniieaaDoor.Wrd
open Go.Lib Gly

theorem decodeN_piece (n b0 b1 b2 b3 c1 c2 c3 : Nat) (e1 : 1 < (Lib.decodeN n b0 b1 b2 b3).2 → c1 = b1) (e2 : 2 < (Lib.decodeN n b0 b1 b2 b3).2 → c2 = b2) (e3 : 3 < (Lib.decodeN n b0 b1 b2 b3).2 → c3 = b3) (m : Nat) (hm : (Lib.decodeN n b0 b1 b2 b3).2 ≤ m) (good : Lib.decodeN n b0 b1 b2 b3 ≠ (65533, 1)) :
    Lib.decodeN m b0 c1 c2 c3 = Lib.decodeN n b0 b1 b2 b3 := by
  rcases Lib.decodeN_shape n b0 b1 b2 b3 with ⟨c, e⟩ | ⟨p1, p2, p3, cv, e⟩ | ⟨p1, p2, p3, p4, cv, cs, e⟩ | ⟨p1, p2, p3, p4, p5, cv, cw, e⟩ | e
  · rw [e, Lib.decodeN_ascii _ _ _ _ _ c]
  · rw [e] at e1 e2 e3 hm ⊢
    dsimp only at hm
    obtain rfl := e1 (by dsimp only; omega)
    unfold Lib.decodeN
    repeat' split
    all_goals first | (exfalso; omega) | rfl
  · rw [e] at e1 e2 e3 hm ⊢
    dsimp only at hm
    obtain rfl := e1 (by dsimp only; omega)
    obtain rfl := e2 (by dsimp only; omega)
    unfold Lib.decodeN
    repeat' split
    all_goals first | (exfalso; omega) | rfl
  · rw [e] at e1 e2 e3 hm ⊢
    dsimp only at hm
    obtain rfl := e1 (by dsimp only; omega)
    obtain rfl := e2 (by dsimp only; omega)
    obtain rfl := e3 (by dsimp only; omega)
    unfold Lib.decodeN
    repeat' split
    all_goals first | (exfalso; omega) | rfl
  · exact absurd e good

/-- The rune that a row of bytes begins with, and its width. -/
def rn (L : List UInt8) : Int := (((decodeL L).1 : Nat) : Int)
def wd (L : List UInt8) : Nat := (decodeL L).2
theorem wd_pos (L : List UInt8) : 1 ≤ wd L := decodeL_width L
theorem wd_le (L : List UInt8) (h : L ≠ []) : wd L ≤ L.length := decodeL_le L h

/-- A rune that is one hangs on its own bytes alone. -/
theorem dec_same (L M : List UInt8) (good : rn L ≠ 65533) (hM : wd L ≤ M.length) (h : M.take (wd L) = L.take (wd L)) : decodeL M = decodeL L := by
  have hw := wd_pos L
  have hg : decodeL L ≠ (65533, 1) := by
    intro e
    apply good
    unfold rn
    rw [e]
    rfl
  have g : ∀ i, i < wd L → M.getD i 0 = L.getD i 0 := by
    intro i hi
    rw [← getD_takeU M (wd L) i hi, h, getD_takeU L (wd L) i hi]
  unfold wd at *
  rw [decodeL_N] at hg
  rw [decodeL_N L] at hM g hw
  rw [decodeL_N M, decodeL_N L, g 0 (by omega)]
  exact decodeN_piece _ _ _ _ _ _ _ _ (fun q => by rw [g 1 q]) (fun q => by rw [g 2 q]) (fun q => by rw [g 3 q]) _ hM hg

/-- How many bytes the runes of one kind have that a row begins with; f: more rounds than there are bytes. -/
def runG (P : Int → Bool) : Nat → List UInt8 → Nat
  | 0, _ => 0
  | f + 1, L => if L ≠ [] ∧ P (rn L) = true then wd L + runG P f (L.drop (wd L)) else 0
def run (P : Int → Bool) (L : List UInt8) : Nat := runG P L.length L
theorem runG_fuel (P : Int → Bool) : ∀ (f g : Nat) (L : List UInt8), L.length ≤ f → L.length ≤ g → runG P f L = runG P g L
  | 0, 0, _, _, _ => rfl
  | 0, g + 1, L, hf, _ => by
    obtain rfl : L = [] := List.eq_nil_of_length_eq_zero (by omega)
    simp [runG]
  | f + 1, 0, L, _, hg => by
    obtain rfl : L = [] := List.eq_nil_of_length_eq_zero (by omega)
    simp [runG]
  | f + 1, g + 1, L, hf, hg => by
    unfold runG
    split
    · rename_i h
      have hw := wd_pos L
      rw [runG_fuel P f g (L.drop (wd L)) (by rw [List.length_drop]; omega) (by rw [List.length_drop]; omega)]
    · rfl
theorem run_step (P : Int → Bool) (L : List UInt8) (hne : L ≠ []) (hp : P (rn L) = true) : run P L = wd L + run P (L.drop (wd L)) := by
  have hw := wd_pos L
  have hl : 0 < L.length := List.length_pos_iff.2 hne
  unfold run
  obtain ⟨f, hf⟩ : ∃ f, L.length = f + 1 := ⟨L.length - 1, by omega⟩
  rw [hf, runG, if_pos ⟨hne, hp⟩, runG_fuel P f (L.drop (wd L)).length _ (by rw [List.length_drop]; omega) (Nat.le_refl _)]
theorem run_stop (P : Int → Bool) (L : List UInt8) (h : L = [] ∨ P (rn L) = false) : run P L = 0 := by
  unfold run
  cases hl : L.length with
  | zero => rfl
  | succ f =>
    rw [runG, if_neg]
    rintro ⟨a, b⟩
    rcases h with h | h
    · exact a h
    · rw [h] at b
      cases b
theorem run_le (P : Int → Bool) : ∀ (n : Nat) (L : List UInt8), L.length ≤ n → run P L ≤ L.length := by
  intro n
  induction n with
  | zero =>
    intro L h
    obtain rfl : L = [] := List.eq_nil_of_length_eq_zero (by omega)
    rw [run_stop P [] (Or.inl rfl)]
    exact Nat.le_refl _
  | succ n ih =>
    intro L h
    by_cases hs : L = [] ∨ P (rn L) = false
    · rw [run_stop P L hs]
      omega
    · have hne : L ≠ [] := fun e => hs (Or.inl e)
      have hp : P (rn L) = true := by cases hq : P (rn L) with | true => rfl | false => exact absurd (Or.inr hq) hs
      have hw := wd_pos L
      have hx := wd_le L hne
      have := ih (L.drop (wd L)) (by rw [List.length_drop]; omega)
      rw [List.length_drop] at this
      rw [run_step P L hne hp]
      omega
theorem run_pos (P : Int → Bool) (L : List UInt8) (hne : L ≠ []) (hp : P (rn L) = true) : wd L ≤ run P L := by
  rw [run_step P L hne hp]
  omega
/-- Where a row of runes of one kind ends hangs on its own bytes, and on what follows. -/
theorem run_same (P : Int → Bool) (hP : P 65533 = false) : ∀ (n : Nat) (L M : List UInt8), L.length ≤ n → M.take (run P L) = L.take (run P L) → run P L ≤ M.length → (M.drop (run P L) = [] ∨ P (rn (M.drop (run P L))) = false) → run P M = run P L := by
  intro n
  induction n with
  | zero =>
    intro L M h _ _ hs
    obtain rfl : L = [] := List.eq_nil_of_length_eq_zero (by omega)
    have h0 : run P [] = 0 := run_stop P [] (Or.inl rfl)
    rw [h0] at hs ⊢
    exact run_stop P M hs
  | succ n ih =>
    intro L M h ht hl hs
    by_cases hz : L = [] ∨ P (rn L) = false
    · have h0 := run_stop P L hz
      rw [h0] at hs ⊢
      exact run_stop P M hs
    · have hne : L ≠ [] := fun e => hz (Or.inl e)
      have hp : P (rn L) = true := by cases hq : P (rn L) with | true => rfl | false => exact absurd (Or.inr hq) hz
      have hw := wd_pos L
      have hx := wd_le L hne
      have hst := run_step P L hne hp
      have hbad : rn L ≠ 65533 := by
        intro e
        rw [e, hP] at hp
        cases hp
      have htw : M.take (wd L) = L.take (wd L) := by
        have := congrArg (List.take (wd L)) ht
        rw [List.take_take, List.take_take, Nat.min_eq_left (by omega)] at this
        exact this
      have hd := dec_same L M hbad (by omega) htw
      have hwM : wd M = wd L := by unfold wd; rw [hd]
      have hrM : rn M = rn L := by unfold rn; rw [hd]
      have hneM : M ≠ [] := by
        intro e
        rw [e] at hl
        simp at hl
        omega
      rw [run_step P M hneM (by rw [hrM]; exact hp), hst, hwM]
      congr 1
      refine ih (L.drop (wd L)) (M.drop (wd L)) (by rw [List.length_drop]; omega) ?_ (by rw [List.length_drop]; omega) ?_
      · have := congrArg (List.drop (wd L)) ht
        rw [List.drop_take, List.drop_take, hst, Nat.add_sub_cancel_left] at this
        exact this
      · rw [List.drop_drop]
        rw [hst] at hs
        exact hs
end Go.Proofs.YtcbjcgbfdniieaaDoor.Wrd
