/-
  Trees: a row of trees as first tree and rest; how many, how deep, which leaves; their texts, and what is read of a text. No program is run here.
-/
import Derived.Test.YtmandanmndmnhaaDoorTk
namespace Go.Proofs.YtmandanmndmnhaaDoor.Tre
open Tks Go.RowKit
set_option linter.unusedSimpArgs false
set_option linter.unusedVariables false

/-- A node without its kids. -/
structure Hd where
  kind : Int
  form : Int
  text : ByteArray
  line : Int
  col : Int
/-- A row of trees. -/
inductive Fo where
  | nil : Fo
  | cons : Hd → Fo → Fo → Fo
def len : Fo → Nat
  | .nil => 0
  | .cons _ _ r => len r + 1
/-- The row from a place on. -/
def dropF : Nat → Fo → Fo
  | 0, f => f
  | _ + 1, .nil => .nil
  | n + 1, .cons _ _ r => dropF n r
theorem dropF_nil (n : Nat) : dropF n .nil = .nil := by cases n <;> rfl
theorem len_drop : ∀ (n : Nat) (f : Fo), len (dropF n f) = len f - n
  | 0, f => by cases f <;> rfl
  | n + 1, .nil => by simp [dropF, len]
  | n + 1, .cons h k r => by
    show len (dropF n r) = len r + 1 - (n + 1)
    rw [len_drop n r]
    omega
theorem drop_cons : ∀ (n : Nat) (f : Fo), n < len f → ∃ h k, dropF n f = .cons h k (dropF (n + 1) f)
  | 0, .nil, hn => absurd hn (by decide)
  | 0, .cons h k r, _ => ⟨h, k, by cases r <;> rfl⟩
  | n + 1, .nil, hn => absurd hn (by simp [len])
  | n + 1, .cons h k r, hn => drop_cons n r (by simp [len] at hn; omega)
theorem drop_len : ∀ f : Fo, dropF (len f) f = .nil
  | .nil => rfl
  | .cons h k r => drop_len r
/-- What holds of each tree of a row, whatever the row: by what holds of its kids. -/
inductive MemF (h : Hd) (k : Fo) : Fo → Prop where
  | head (r : Fo) : MemF h k (.cons h k r)
  | tail (h' : Hd) (k' r : Fo) : MemF h k r → MemF h k (.cons h' k' r)
theorem mem_drop {h : Hd} {k r : Fo} : ∀ (n : Nat) (f : Fo), dropF n f = .cons h k r → MemF h k f
  | 0, f, e => by
    have e : f = .cons h k r := by cases f <;> exact e
    subst e
    exact .head r
  | n + 1, .nil, e => by cases e
  | n + 1, .cons h' k' r', e => .tail h' k' r' (mem_drop n r' e)
theorem each_tree {P : Hd → Fo → Prop} (step : ∀ h k, (∀ h' k', MemF h' k' k → P h' k') → P h k) : ∀ f : Fo, ∀ h k, MemF h k f → P h k
  | .nil, h, k, m => by cases m
  | .cons h' k' r', h, k, m => by
    cases m with
    | head => exact step _ _ (each_tree step _)
    | tail _ _ _ m => exact each_tree step r' h k m
theorem all_trees {P : Hd → Fo → Prop} (step : ∀ h k, (∀ h' k', MemF h' k' k → P h' k') → P h k) (h : Hd) (k : Fo) : P h k := each_tree step (.cons h k .nil) h k (.head _)

/-- What counts of a node. -/
def sameH (a b : Hd) : Bool := a.kind == b.kind && (a.form == b.form && a.text.data.toList == b.text.data.toList)
def sameF : Fo → Fo → Bool
  | .nil, .nil => true
  | .cons a k r, .cons b l q => (sameH a b && sameF k l) && sameF r q
  | _, _ => false
def sizeF : Fo → Nat
  | .nil => 0
  | .cons _ k r => 1 + sizeF k + sizeF r
def deepF : Fo → Nat
  | .nil => 0
  | .cons _ k r => max (1 + deepF k) (deepF r)
def tokH (h : Hd) : Tk := ⟨h.form, h.text, h.line, h.col⟩
def leavesF : Fo → List Tk
  | .nil => []
  | .cons h k r => (if h.kind = 1 then [tokH h] else leavesF k) ++ leavesF r
theorem sameF_len : ∀ {a b : Fo}, sameF a b = true → len a = len b
  | .nil, .nil, _ => rfl
  | .nil, .cons _ _ _, h => by cases h
  | .cons _ _ _, .nil, h => by cases h
  | .cons a k r, .cons b l q, h => by
    simp only [sameF, Bool.and_eq_true] at h
    simp only [len]
    rw [sameF_len h.2]
theorem sameH_self (a : Hd) : sameH a a = true := by simp [sameH]
theorem sameF_self : ∀ a : Fo, sameF a a = true
  | .nil => rfl
  | .cons h k r => by simp [sameF, sameH_self, sameF_self k, sameF_self r]
theorem deep_le_size : ∀ f : Fo, deepF f ≤ sizeF f
  | .nil => Nat.le_refl _
  | .cons h k r => by
    have := deep_le_size k
    have := deep_le_size r
    simp only [deepF, sizeF]
    omega
theorem len_le_size : ∀ f : Fo, len f ≤ sizeF f
  | .nil => Nat.le_refl _
  | .cons h k r => by
    have := len_le_size r
    simp only [len, sizeF]
    omega
end Go.Proofs.YtmandanmndmnhaaDoor.Tre
