/-
  The document's atom: square brackets with nothing between. Conditions: what the document's Next and Type do, and sizes that are borne.
-/
import Derived.Test.YtmgclgojmckfhaaGreatDoorZTypB
import Derived.Test.YtmgclgojmckfhaaGreatDoorZNxA
namespace Go.Proofs.YtmgclgojmckfhaaGreatDoor.Typ
open Tks Tre Go.RowKit
open Lay (Sx StV Fit9 nextS NextOut tkV9 IntArg)
set_option linter.unusedSimpArgs false
set_option linter.unusedVariables false

end Go.Proofs.YtmgclgojmckfhaaGreatDoor.Typ
/-
  The document's atom: square brackets with a type. Conditions: what the document's Next and Type do, and sizes that are borne.
-/
namespace Go.Proofs.YtmgclgojmckfhaaGreatDoor.Typ
open Tks Tre Go.RowKit
open Lay (Sx StV Fit9 nextS NextOut tkV9 IntArg)
set_option linter.unusedSimpArgs false
set_option linter.unusedVariables false

end Go.Proofs.YtmgclgojmckfhaaGreatDoor.Typ
/-
  The document's atom. Conditions: what the document's Next and Type do, and sizes that are borne.
-/
namespace Go.Proofs.YtmgclgojmckfhaaGreatDoor.Typ
open Tks Tre Go.RowKit
open Lay (Sx StV Fit9 nextS NextOut tkV9 IntArg)
set_option linter.unusedSimpArgs false
set_option linter.unusedVariables false

end Go.Proofs.YtmgclgojmckfhaaGreatDoor.Typ
/-
  The document's clean, Deep, Limit. No condition.
-/
namespace Go.Proofs.YtmgclgojmckfhaaGreatDoor.Typ
open Tks Tre Go.RowKit
open Lay (Sx StV Fit9 nextS NextOut tkV9 IntArg)
set_option linter.unusedSimpArgs false
set_option linter.unusedVariables false

end Go.Proofs.YtmgclgojmckfhaaGreatDoor.Typ
/-
  The document's arrows: what may stand behind a row. Conditions: what the document's Next and row do, and sizes that are borne.
-/
namespace Go.Proofs.YtmgclgojmckfhaaGreatDoor.Typ
open Tks Tre Go.RowKit
open Lay (Sx StV Fit9 nextS NextOut tkV9 IntArg)
set_option linter.unusedSimpArgs false
set_option linter.unusedVariables false

end Go.Proofs.YtmgclgojmckfhaaGreatDoor.Typ
/-
  The document's Atom, Row, Type over states. Conditions: what the document's Next does, and sizes that are borne.
-/
namespace Go.Proofs.YtmgclgojmckfhaaGreatDoor.Typ
open Tks Tre Go.RowKit
open Lay (Sx StV Fit9 nextS NextOut tkV9 IntArg)
set_option linter.unusedSimpArgs false
set_option linter.unusedVariables false

end Go.Proofs.YtmgclgojmckfhaaGreatDoor.Typ
/-
  The document's Full over states. Conditions: what the document's Next does, and sizes that are borne.
-/
namespace Go.Proofs.YtmgclgojmckfhaaGreatDoor.Typ
open Tks Tre Go.RowKit
open Lay (Sx StV Fit9 nextS NextOut tkV9 IntArg)
set_option linter.unusedSimpArgs false
set_option linter.unusedVariables false

/-- What Full answers, over what a row is. -/
def fullG (A : Sx → Rd) (s : Sx) : Rd :=
  if (A s).e = 0 ∧ isR (A s).s 10 [61, 62] = true then cleanR ⟨nodeH 38, pushF (pushF (oneF (A s)) (takeR (A s).s)) (arrowsR A (A (takeR (A s).s).s)), (arrowsR A (A (takeR (A s).s).s)).s, (arrowsR A (A (takeR (A s).s).s)).e⟩
  else cleanR (arrowsR A (A s))
theorem fullR_eq (T : Sx → Rd) (s : Sx) : fullR T s = fullG (rowR (atomR T)) s := rfl
end Go.Proofs.YtmgclgojmckfhaaGreatDoor.Typ
/-
  What the document's Atom, Row, Type, Full answer. Conditions: what the document's Next does; at most 2^35 tokens and blocks.
-/
namespace Go.Proofs.YtmgclgojmckfhaaGreatDoor.Typ
open Tks Tre Go.RowKit
open Lay (Sx StV Fit9 nextS NextOut tkV9 IntArg)
set_option linter.unusedSimpArgs false
set_option linter.unusedVariables false

/-- The sizes that are borne. -/
def big : Nat := 34359738368
theorem leaves_push_ne (l : Fo) (x : Rd) (h : leavesF l ≠ []) : leavesF (pushF l x) ≠ [] := by
  rw [leavesF_push]
  exact List.append_ne_nil_of_left_ne_nil h _
theorem take_ne {s : Sx} (h : (takeR s).e = 0) : leavesN (takeR s).h (takeR s).k ≠ [] := by
  rw [take_ok h]
  unfold leavesN leafH
  rw [if_pos rfl]
  simp
theorem one_ne {x : Rd} (h : leavesN x.h x.k ≠ []) : leavesF (oneF x) ≠ [] := by
  rw [leavesF_one]
  exact h
theorem close_ne {kind : Int} (hk : kind ≠ 1) (c : UInt8) {l : Fo} (s : Sx) (h : leavesF l ≠ []) (he : (closeR kind c l s).e = 0) : leavesN (closeR kind c l s).h (closeR kind c l s).k ≠ [] := by
  unfold closeR at he ⊢
  split at he
  · rename_i hw
    rw [if_pos hw, leavesN_node hk]
    exact leaves_push_ne _ _ h
  · rename_i hw
    exact absurd he hw
theorem commas_ne : ∀ (f : Nat) (l : Fo) (s : Sx), leavesF l ≠ [] → (commasR f l s).e = 0 → leavesN (commasR f l s).h (commasR f l s).k ≠ []
  | 0, l, s, h, he => absurd he (by decide : ¬ (-1 : Int) = 0)
  | f + 1, l, s, h, he => by
    unfold commasR at he ⊢
    split
    · rename_i hi
      rw [if_pos hi] at he
      exact commas_ne f _ _ (leaves_push_ne _ _ h) he
    · rename_i hi
      rw [if_neg hi] at he
      exact close_ne (by decide) 41 s h he
theorem types_ne {T : Sx → Rd} : ∀ (f : Nat) (kind : Int) (l : Fo) (s : Sx), kind ≠ 1 → leavesF l ≠ [] → (typesR T f kind l s).e = 0 → leavesN (typesR T f kind l s).h (typesR T f kind l s).k ≠ []
  | 0, kind, l, s, hk, h, he => absurd he (by decide : ¬ (-1 : Int) = 0)
  | f + 1, kind, l, s, hk, h, he => by
    unfold typesR at he ⊢
    split
    · rename_i ht
      rw [if_pos ht] at he
      split
      · rename_i hi
        rw [if_pos hi] at he
        exact types_ne f 5 _ _ (by decide) (leaves_push_ne _ _ (leaves_push_ne _ _ h)) he
      · rename_i hi
        rw [if_neg hi] at he
        exact close_ne hk 41 _ (leaves_push_ne _ _ h) he
    · rename_i ht
      rw [if_neg ht] at he
      exact absurd he ht
theorem atom_ne (T : Sx → Rd) : Ne (atomR T) := by
  intro s he
  unfold atomR at he ⊢
  split
  · rename_i h0
    rw [if_pos h0] at he
    have h1 := one_ne (take_ne h0)
    split
    · rename_i h2
      rw [if_pos h2] at he
      split
      · rename_i h3
        rw [if_pos h3] at he
        unfold roundR at he ⊢
        split
        · rename_i h4
          rw [if_pos h4] at he
          exact commas_ne _ _ _ h1 he
        · rename_i h4
          rw [if_neg h4] at he
          split
          · rename_i h5
            rw [if_pos h5] at he
            exact close_ne (by decide) 41 _ (leaves_push_ne _ _ h1) he
          · rename_i h5
            rw [if_neg h5] at he
            exact types_ne _ _ _ _ (by decide) h1 he
      · rename_i h3
        rw [if_neg h3] at he
        split
        · rename_i h4
          rw [if_pos h4] at he
          unfold squareR at he ⊢
          split
          · rename_i h5
            rw [if_pos h5] at he
            exact close_ne (by decide) 93 _ h1 he
          · rename_i h5
            rw [if_neg h5] at he
            split
            · rename_i h6
              rw [if_pos h6] at he
              exact close_ne (by decide) 93 _ (leaves_push_ne _ _ h1) he
            · rename_i h6
              rw [if_neg h6] at he
              exact absurd he h6
        · exact take_ne h0
    · rename_i h2
      rw [if_neg h2] at he
      exact absurd he (bad_ne s)
  · rename_i h0
    rw [if_neg h0] at he
    exact absurd he h0
theorem rowF_ne {A : Sx → Rd} (hA : Ne A) : ∀ (f : Nat) (l : Fo) (x : Rd), leavesF l ≠ [] ∨ x.e ≠ 0 → (x.e = 0 → leavesN x.h x.k ≠ []) → (rowF A f l x).e = 0 → leavesN (rowF A f l x).h (rowF A f l x).k ≠ []
  | 0, l, x, h, h1, he => by
    unfold rowF at he ⊢
    split
    · rename_i hx
      rw [if_pos hx] at he
      exact absurd he (by decide : ¬ (-1 : Int) = 0)
    · rename_i hx
      rw [if_neg hx] at he
      exact absurd he hx
  | f + 1, l, x, h, h1, he => by
    unfold rowF at he ⊢
    split
    · rename_i hx
      rw [if_pos hx] at he
      have hl : leavesF l ≠ [] := h.resolve_right (fun q => q hx)
      split
      · rename_i h2
        rw [if_pos h2] at he
        exact rowF_ne hA f _ _ (.inl (leaves_push_ne _ _ hl)) (fun q => hA _ q) he
      · rename_i h2
        rw [if_neg h2] at he
        split
        · rw [leavesN_node (by decide)]
          exact hl
        · exact h1 hx
    · rename_i hx
      rw [if_neg hx] at he
      exact absurd he hx
theorem row_ne {A : Sx → Rd} (hA : Ne A) : Ne (rowR A) := by
  intro s he
  unfold rowR at he ⊢
  refine rowF_ne hA _ _ _ ?_ (hA s) he
  by_cases h : (A s).e = 0
  · exact .inl (one_ne (hA s h))
  · exact .inr h
theorem big_le : big ≤ 1099511627776 := by decide
theorem big_le2 : 20 * big + 20 ≤ 1099511627776 := by decide
theorem rown_le {T : Sx → Rd} (hT : ∀ s, Lv s (T s)) {s : Sx} (hf : Fits big s) (h : (rowR (atomR T) s).e = 0) : lf (rowR (atomR T) s).s ≤ 6 * big + 2 :=
  lv_lf hf (row_lv (fun s => atom_lv hT s) s h) (row_ne (atom_ne T) s h)
theorem wrap_pred {n : Nat} (h : n ≤ 100) : IntKind.i64.wrap (((n + 1 : Nat) : Int) - 1) = (n : Int) := IntWalk.i64_in _ (by omega) |>.trans (by omega)
/-- The depth that counts. -/
theorem lim_pos {deep : Int} (h : ¬ deep < 1) : ∃ n : Nat, n ≤ 99 ∧ lim deep = n + 1 := ⟨lim deep - 1, by unfold lim; omega, by unfold lim; omega⟩
section
end
end Go.Proofs.YtmgclgojmckfhaaGreatDoor.Typ
