/-
  Plain facts about a string whose tabs are spread to blanks. No program is run here.
-/
import Derived.Test.YtckailpeedfajaaDoorPlcTrim
namespace Go.Proofs.YtckailpeedfajaaDoor.Plc
open Go.Lib Gly

/-- The bytes from a to b. -/
def sl (s : ByteArray) (a b : Nat) : List UInt8 := (s.extract a b).data.toList
theorem sl_take (s : ByteArray) (a b : Nat) : sl s a b = (s.data.toList.drop a).take (b - a) := Lib.extract_data s a b
theorem sl_same (s : ByteArray) (a : Nat) : sl s a a = [] := by rw [sl_take, Nat.sub_self]; rfl
theorem sl_cat (s : ByteArray) (a b c : Nat) (h1 : a ≤ b) (h2 : b ≤ c) : sl s a b ++ sl s b c = sl s a c := by
  rw [sl_take, sl_take, sl_take]
  have e : c - a = (b - a) + (c - b) := by omega
  rw [e, List.take_add, List.drop_drop]
  have e2 : a + (b - a) = b := by omega
  rw [e2]
theorem sl_len (s : ByteArray) (a b : Nat) (h : b ≤ s.size) : (sl s a b).length = b - a := by
  rw [sl_take, List.length_take, List.length_drop, ← Lib.size_eq]
  omega
theorem sl_size (s : ByteArray) (a b : Nat) (h : b ≤ s.size) : (s.extract a b).size = b - a := by
  rw [Lib.size_eq]
  exact sl_len s a b h

theorem rune_tab (s : ByteArray) (p : Nat) : (Utf8.decode s p).1 = 9 ↔ bt s p = 9 := by
  rw [decode_N, bt_getD]
  rcases decodeN_shape (s.data.toList.length - p) (s.data.toList.getD p 0).toNat (s.data.toList.getD (p + 1) 0).toNat (s.data.toList.getD (p + 2) 0).toNat (s.data.toList.getD (p + 3) 0).toNat with ⟨c, e⟩ | ⟨c1, c2, c3, cv, e⟩ | ⟨c1, c2, c3, c4, cv, cs, e⟩ | ⟨c1, c2, c3, c4, c5, cv, cw, e⟩ | e
  · rw [e]
  · rw [e]; dsimp only; omega
  · rw [e]; dsimp only; omega
  · rw [e]; dsimp only; omega
  · rw [e]
    dsimp only
    refine ⟨fun h => by omega, fun h => ?_⟩
    rw [decodeN_ascii _ _ _ _ _ (by omega)] at e
    rw [h] at e
    cases e

/-- What is written for what stands at a byte. -/
def outAt (s : ByteArray) (p : Nat) (c : Int) : List UInt8 := if bt s p = 9 then List.replicate (tabI c - c).toNat 32 else sl s p (p + (Utf8.decode s p).2)
/-- What is left of the string, spread. -/
def spr (s : ByteArray) : Nat → Nat → Int × Int → List UInt8
  | 0, _, _ => []
  | f + 1, p, st => if p < s.size then outAt s p st.2 ++ spr s f (p + (Utf8.decode s p).2) (adv s p st) else []
def sprL (s : ByteArray) : List UInt8 := spr s s.size 0 (1, 1)
theorem spr_end (s : ByteArray) (f p : Nat) (st : Int × Int) (h : ¬ p < s.size) : spr s f p st = [] := by
  cases f with
  | zero => rfl
  | succ f => rw [spr, if_neg h]
theorem spr_go (s : ByteArray) (f p : Nat) (st : Int × Int) (h : p < s.size) (hf : s.size ≤ p + f) : spr s f p st = outAt s p st.2 ++ spr s (f - 1) (p + (Utf8.decode s p).2) (adv s p st) := by
  cases f with
  | zero => omega
  | succ f => rw [spr, if_pos h]; rfl
theorem spr_fuel (s : ByteArray) : ∀ (f g p : Nat) (st : Int × Int), s.size ≤ p + f → s.size ≤ p + g → spr s f p st = spr s g p st := by
  intro f
  induction f with
  | zero => intro g p st hf hg; rw [spr_end _ _ _ _ (by omega), spr_end _ _ _ _ (by omega)]
  | succ f ih =>
    intro g p st hf hg
    by_cases h : p < s.size
    · have hw := width_ge s p
      rw [spr, if_pos h, spr_go s g p st h hg, ih (g - 1) _ _ (by omega) (by omega)]
    · rw [spr_end _ _ _ _ h, spr_end _ _ _ _ h]
theorem tab_step (c : Int) (_h : 1 ≤ c) : 1 ≤ (tabI c - c).toNat ∧ (tabI c - c).toNat ≤ 8 ∧ c + ((tabI c - c).toNat : Int) = tabI c := by
  unfold tabI
  omega
theorem outAt_len (s : ByteArray) (p : Nat) (c : Int) (h : 1 ≤ c) (hp : p < s.size) : (outAt s p c).length ≤ 8 * (Utf8.decode s p).2 := by
  have hw := width_ge s p
  unfold outAt
  split
  · have := tab_step c h
    rw [List.length_replicate]
    omega
  · rw [sl_len s _ _ (width_fits s p hp)]
    omega
/-- The line's number does not matter. -/
theorem spr_line (s : ByteArray) : ∀ (f p : Nat) (l l' c : Int), spr s f p (l, c) = spr s f p (l', c) := by
  intro f
  induction f with
  | zero => intro p l l' c; rfl
  | succ f ih =>
    intro p l l' c
    rw [spr, spr]
    split
    · have h : (adv s p (l, c)).2 = (adv s p (l', c)).2 := by
        unfold adv
        repeat' split
        all_goals rfl
      have h1 : adv s p (l, c) = ((adv s p (l, c)).1, (adv s p (l, c)).2) := rfl
      have h2 : adv s p (l', c) = ((adv s p (l', c)).1, (adv s p (l', c)).2) := rfl
      rw [h1, h2, h, ih _ _ (adv s p (l', c)).1 _]
    · rfl
/-- A newline goes over as it is, and the next line begins. -/
theorem spr_nl (s : ByteArray) (f p : Nat) (l c : Int) (h : nlAt s p ≠ 0) (hp : p < s.size) (hf : s.size ≤ p + f) : spr s f p (l, c) = sl s p (p + nlAt s p) ++ spr s s.size (p + nlAt s p) (1, 1) := by
  have hle := nlAt_le s p
  rcases (show nlAt s p = 1 ∨ nlAt s p = 2 by omega) with e | e
  · have hb := (nl_one s p e).2
    have w1 := width_ascii s p (by omega)
    rw [spr_go s f p _ hp hf, w1, e]
    have e1 : adv s p (l, c) = (l + 1, 1) := by unfold adv; rw [if_neg (by omega), if_pos e]
    have e2 : outAt s p c = sl s p (p + 1) := by unfold outAt; rw [if_neg (by omega), w1]
    rw [e1]
    dsimp only
    rw [e2, spr_fuel s (f - 1) s.size (p + 1) _ (by omega) (by omega), spr_line s _ _ (l + 1) 1 1]
  · obtain ⟨h1, h2, h3, h4⟩ := nl_two s p e
    have w1 := width_ascii s p (by omega)
    have w2 := width_ascii s (p + 1) (by omega)
    rw [spr_go s f p _ hp hf, w1, e]
    have e1 : adv s p (l, c) = (l, c) := by unfold adv; rw [if_pos e]
    have e2 : outAt s p c = sl s p (p + 1) := by unfold outAt; rw [if_neg (by omega), w1]
    rw [e1, spr_go s (f - 1) (p + 1) _ h1 (by omega), w2]
    have e3 : adv s (p + 1) (l, c) = (l + 1, 1) := by unfold adv; rw [if_neg (by omega), if_pos h4]
    have e4 : outAt s (p + 1) c = sl s (p + 1) (p + 2) := by unfold outAt; rw [if_neg (by omega), w2]
    rw [e3]
    dsimp only
    rw [e2, e4, ← List.append_assoc, sl_cat s p (p + 1) (p + 2) (by omega) (by omega), spr_fuel s (f - 1 - 1) s.size (p + 1 + 1) _ (by omega) (by omega), spr_line s _ _ (l + 1) 1 1]
theorem spr_char (s : ByteArray) (f p : Nat) (l c : Int) (h : nlAt s p = 0) (hp : p < s.size) (hf : s.size ≤ p + f) :
    spr s f p (l, c) = outAt s p c ++ spr s (f - 1) (p + (Utf8.decode s p).2) (1, if bt s p = 9 then tabI c else c + 1) := by
  rw [spr_go s f p _ hp hf]
  have e1 : adv s p (l, c) = (l, if bt s p = 9 then tabI c else c + 1) := by
    unfold adv
    rw [if_neg (by omega), if_neg (by omega)]
    split <;> rfl
  rw [e1, spr_line s _ _ l 1]
theorem adv_col (s : ByteArray) (p : Nat) (st : Int × Int) (h : 1 ≤ st.2) : 1 ≤ (adv s p st).2 := by
  unfold adv tabI
  repeat' split
  all_goals (try dsimp only)
  all_goals omega
theorem spr_len (s : ByteArray) : ∀ (f p : Nat) (st : Int × Int), 1 ≤ st.2 → p ≤ s.size → (spr s f p st).length ≤ 8 * (s.size - p) := by
  intro f
  induction f with
  | zero => intro p st _ _; simp [spr]
  | succ f ih =>
    intro p st h1 hp0
    rw [spr]
    split
    · rename_i hp
      have hx := width_fits s p hp
      have h2 := outAt_len s p st.2 h1 hp
      have h3 := ih (p + (Utf8.decode s p).2) (adv s p st) (adv_col s p st h1) hx
      rw [List.length_append]
      omega
    · simp
theorem sprL_len (s : ByteArray) : (sprL s).length ≤ 8 * s.size := by
  have := spr_len s s.size 0 (1, 1) (by decide) (Nat.zero_le _)
  unfold sprL
  omega

end Go.Proofs.YtckailpeedfajaaDoor.Plc
