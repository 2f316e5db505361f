/-
  Types as the document parses them, over states and what Next answers there; the leaves are the tokens passed; with some depth as with any greater one. No program is run here.
-/
import Derived.Test.YtmgclgojmckfhaaGreatDoorZTk
import Derived.Test.YtmgclgojmckfhaaGreatDoorZTreA
import Derived.Test.YtmgclgojmckfhaaGreatDoorZPst
namespace Go.Proofs.YtmgclgojmckfhaaGreatDoor.Typ
open Tks Mrk Lay Tre Go.RowKit
set_option linter.unusedSimpArgs false
set_option linter.unusedVariables false

def zeroN : Hd := ⟨0, 0, ⟨#[]⟩, 0, 0⟩
def nodeH (k : Int) : Hd := ⟨k, 0, ⟨#[]⟩, 0, 0⟩
def leafH (t : Tk) : Hd := ⟨1, t.kind, t.text, t.line, t.col⟩
/-- A tree, where it ends, and what is wrong. -/
structure Rd where
  h : Hd
  k : Fo
  s : Sx
  e : Int
def errR (s : Sx) (e : Int) : Rd := ⟨zeroN, .nil, s, e⟩
def tk (s : Sx) : Tk := (nextS s).1
def nx (s : Sx) : Sx := (nextS s).2.1
def er (s : Sx) : Int := (nextS s).2.2
def isR (s : Sx) (k : Int) (x : List UInt8) : Bool := er s == 0 && ((tk s).kind == k && (tk s).text.data.toList == x)
def takeR (s : Sx) : Rd := if er s = 0 then ⟨leafH (tk s), .nil, nx s, 0⟩ else errR s (er s)
def badR (s : Sx) : Rd := if er s = 0 then errR s 110 else errR s (er s)
def wantR (s : Sx) (k : Int) (x : List UInt8) : Rd := if isR s k x = true then takeR s else badR s
def startsB (t : Tk) : Bool := t.kind == 2 || (t.kind == 4 || (t.kind == 1 || (t.kind == 15 && (t.text.data.toList == [40] || t.text.data.toList == [91]))))
def oneF (x : Rd) : Fo := .cons x.h x.k .nil
def pushF (l : Fo) (x : Rd) : Fo := appF l (oneF x)
/-- A node that the bracket c ends. -/
def closeR (kind : Int) (c : UInt8) (l : Fo) (s : Sx) : Rd := if (wantR s 15 [c]).e = 0 then ⟨nodeH kind, pushF l (wantR s 15 [c]), (wantR s 15 [c]).s, 0⟩ else wantR s 15 [c]
def commasR : Nat → Fo → Sx → Rd
  | 0, _, s => errR s (-1)
  | f + 1, l, s => if isR s 15 [44] = true then commasR f (pushF l (takeR s)) (takeR s).s else closeR 3 41 l s
def typesR (T : Sx → Rd) : Nat → Int → Fo → Sx → Rd
  | 0, _, _, s => errR s (-1)
  | f + 1, kind, l, s => if (T s).e = 0 then
      (if isR (T s).s 15 [44] = true then typesR T f 5 (pushF (pushF l (T s)) (takeR (T s).s)) (takeR (T s).s).s else closeR kind 41 (pushF l (T s)) (T s).s)
    else T s
/-- How many tokens may follow, and one. -/
def fu (s : Sx) : Nat := left s.toks s.at_.toNat s.opn s.wait + 1
def roundR (T : Sx → Rd) (l : Fo) (s : Sx) : Rd :=
  if isR s 15 [41] = true ∨ isR s 15 [44] = true then commasR (fu s) l s
  else if isR s 10 [45, 62] = true then closeR 3 41 (pushF l (takeR s)) (takeR s).s
  else typesR T (fu s) 4 l s
def squareR (T : Sx → Rd) (l : Fo) (s : Sx) : Rd :=
  if isR s 15 [93] = true then closeR 3 93 l s
  else if (T s).e = 0 then closeR 6 93 (pushF l (T s)) (T s).s else T s
def atomR (T : Sx → Rd) (s : Sx) : Rd :=
  if (takeR s).e = 0 then
    (if startsB (tk s) = true then
      (if (tk s).kind = 15 ∧ (tk s).text.data.toList = [40] then roundR T (oneF (takeR s)) (takeR s).s
       else if (tk s).kind = 15 ∧ (tk s).text.data.toList = [91] then squareR T (oneF (takeR s)) (takeR s).s
       else takeR s)
     else badR s)
  else takeR s
def rowF (A : Sx → Rd) : Nat → Fo → Rd → Rd
  | 0, _, x => if x.e = 0 then errR x.s (-1) else x
  | f + 1, l, x => if x.e = 0 then
      (if startsB (tk x.s) = true then rowF A f (pushF l (A x.s)) (A x.s) else if 1 < len l then ⟨nodeH 39, l, x.s, 0⟩ else x)
    else x
def rowR (A : Sx → Rd) (s : Sx) : Rd := rowF A (fu (A s).s) (oneF (A s)) (A s)
def arrowF (R : Sx → Rd) : Nat → Fo → Sx → Rd
  | 0, _, s => errR s (-1)
  | f + 1, l, s => if isR s 10 [45, 62] = true then
      (if (R (takeR s).s).e = 0 then arrowF R f (pushF (pushF l (takeR s)) (R (takeR s).s)) (R (takeR s).s).s else R (takeR s).s)
    else ⟨nodeH 37, l, s, 0⟩
def arrowsR (R : Sx → Rd) (x : Rd) : Rd := if x.e = 0 ∧ isR x.s 10 [45, 62] = true then arrowF R (fu x.s) (oneF x) x.s else x
def cleanR (x : Rd) : Rd := if x.e = 0 then x else errR x.s x.e
/-- L3, nested at most so deep. -/
def typeN : Nat → Sx → Rd
  | 0, s => errR s 2
  | d + 1, s => cleanR (arrowsR (rowR (atomR (typeN d))) (rowR (atomR (typeN d)) s))
def fullR (T : Sx → Rd) (s : Sx) : Rd :=
  let x := rowR (atomR T) s
  if x.e = 0 ∧ isR x.s 10 [61, 62] = true then
    let y := arrowsR (rowR (atomR T)) (rowR (atomR T) (takeR x.s).s)
    cleanR ⟨nodeH 38, pushF (pushF (oneF x) (takeR x.s)) y, y.s, y.e⟩
  else cleanR (arrowsR (rowR (atomR T)) x)
def lim (deep : Int) : Nat := (min deep 100).toNat
def fullS (s : Sx) (deep : Int) : Rd := if deep < 1 then errR s 2 else fullR (typeN (lim deep - 1)) s

/-! ### The leaves are the tokens that were passed -/

inductive Steps : Sx → List Tk → Sx → Prop where
  | nil (s : Sx) : Steps s [] s
  | cons {s t : Sx} {l : List Tk} : er s = 0 → (tk s).kind ≠ 21 → Steps (nx s) l t → Steps s (tk s :: l) t
theorem Steps.trans {s t u : Sx} {a b : List Tk} (h : Steps s a t) (g : Steps t b u) : Steps s (a ++ b) u := by
  induction h with
  | nil s => exact g
  | cons e k _ ih => exact .cons e k (ih g)
theorem leavesF_app : ∀ a b : Fo, leavesF (appF a b) = leavesF a ++ leavesF b
  | .nil, b => rfl
  | .cons h k r, b => by
    simp only [appF, leavesF, leavesF_app r b, List.append_assoc]
theorem leavesF_push (l : Fo) (x : Rd) : leavesF (pushF l x) = leavesF l ++ leavesN x.h x.k := by
  unfold pushF oneF
  rw [leavesF_app]
  simp [leavesF, leavesN]
theorem leavesF_one (x : Rd) : leavesF (oneF x) = leavesN x.h x.k := by simp [oneF, leavesF, leavesN]
theorem leavesN_node {k : Int} (h : k ≠ 1) (l : Fo) : leavesN (nodeH k) l = leavesF l := if_neg h
/-- What a reading that went well passed over is its leaves. -/
def Lv (s : Sx) (x : Rd) : Prop := x.e = 0 → Steps s (leavesN x.h x.k) x.s
theorem take_e {s : Sx} (h : (takeR s).e = 0) : er s = 0 := by
  unfold takeR at h
  split at h
  · assumption
  · exact h
theorem take_lv (s : Sx) (hk : (tk s).kind ≠ 21) : Lv s (takeR s) := fun h => by
  have he := take_e h
  unfold takeR
  rw [if_pos he]
  exact .cons he hk (.nil _)
theorem is_take {s : Sx} {k : Int} {x : List UInt8} (h : isR s k x = true) : er s = 0 ∧ (takeR s).e = 0 := by
  unfold isR at h
  have he : er s = 0 := beq_iff_eq.1 (Bool.and_eq_true_iff.1 h).1
  exact ⟨he, by unfold takeR; rw [if_pos he]⟩
theorem is_lv {s : Sx} {k : Int} {x : List UInt8} (h : isR s k x = true) (hk : k ≠ 21) : Steps s (leavesN (takeR s).h (takeR s).k) (takeR s).s := by
  refine take_lv s ?_ (is_take h).2
  unfold isR at h
  simp only [Bool.and_eq_true, beq_iff_eq] at h
  rw [h.2.1]
  exact hk
theorem starts_kind {t : Tk} (h : startsB t = true) : t.kind ≠ 21 := by
  intro e
  unfold startsB at h
  rw [e] at h
  simp at h
theorem bad_ne (s : Sx) : (badR s).e ≠ 0 := by
  unfold badR
  split
  · exact (by decide : ¬ (110 : Int) = 0)
  · assumption
theorem want_lv (s : Sx) (k : Int) (x : List UInt8) (hk : k ≠ 21) : Lv s (wantR s k x) := by
  unfold wantR
  split
  · rename_i h
    exact fun _ => is_lv h hk
  · exact fun h => absurd h (bad_ne s)
theorem close_lv {s0 s : Sx} {l : Fo} {kind : Int} (hk : kind ≠ 1) (c : UInt8) (h : Steps s0 (leavesF l) s) : Lv s0 (closeR kind c l s) := fun he => by
  unfold closeR at he ⊢
  split at he
  · rename_i hw
    rw [if_pos hw, leavesN_node hk, leavesF_push]
    exact h.trans (want_lv s 15 [c] (by decide) hw)
  · rename_i hw
    exact absurd he hw
theorem commas_lv {s0 : Sx} : ∀ (f : Nat) (l : Fo) (s : Sx), Steps s0 (leavesF l) s → Lv s0 (commasR f l s)
  | 0, l, s, h => fun he => absurd he (by decide : ¬ (-1 : Int) = 0)
  | f + 1, l, s, h => by
    unfold commasR
    split
    · rename_i hi
      refine commas_lv f _ _ ?_
      rw [leavesF_push]
      exact h.trans (is_lv hi (by decide))
    · exact close_lv (by decide) 41 h
theorem types_lv {T : Sx → Rd} (hT : ∀ s, Lv s (T s)) {s0 : Sx} : ∀ (f : Nat) (kind : Int) (l : Fo) (s : Sx), kind ≠ 1 → Steps s0 (leavesF l) s → Lv s0 (typesR T f kind l s)
  | 0, kind, l, s, hk, h => fun he => absurd he (by decide : ¬ (-1 : Int) = 0)
  | f + 1, kind, l, s, hk, h => by
    unfold typesR
    split
    · rename_i ht
      have h1 : Steps s0 (leavesF (pushF l (T s))) (T s).s := by
        rw [leavesF_push]
        exact h.trans (hT s ht)
      split
      · rename_i hi
        refine types_lv hT f 5 _ _ (by decide) ?_
        rw [leavesF_push]
        exact h1.trans (is_lv hi (by decide))
      · exact close_lv hk 41 h1
    · rename_i ht
      exact fun he => absurd he ht
theorem round_lv {T : Sx → Rd} (hT : ∀ s, Lv s (T s)) {s0 s : Sx} {l : Fo} (h : Steps s0 (leavesF l) s) : Lv s0 (roundR T l s) := by
  unfold roundR
  split
  · exact commas_lv _ _ _ h
  · split
    · rename_i hi
      refine close_lv (by decide) 41 ?_
      rw [leavesF_push]
      exact h.trans (is_lv hi (by decide))
    · exact types_lv hT _ _ _ _ (by decide) h
theorem square_lv {T : Sx → Rd} (hT : ∀ s, Lv s (T s)) {s0 s : Sx} {l : Fo} (h : Steps s0 (leavesF l) s) : Lv s0 (squareR T l s) := by
  unfold squareR
  split
  · exact close_lv (by decide) 93 h
  · split
    · rename_i ht
      refine close_lv (by decide) 93 ?_
      rw [leavesF_push]
      exact h.trans (hT s ht)
    · rename_i ht
      exact fun he => absurd he ht
theorem atom_lv {T : Sx → Rd} (hT : ∀ s, Lv s (T s)) (s : Sx) : Lv s (atomR T s) := by
  unfold atomR
  split
  · rename_i ht
    split
    · rename_i hs
      have hk := starts_kind hs
      have h1 : Steps s (leavesF (oneF (takeR s))) (takeR s).s := by
        rw [leavesF_one]
        exact take_lv s hk ht
      split
      · exact round_lv hT h1
      · split
        · exact square_lv hT h1
        · exact take_lv s hk
    · exact fun he => absurd he (bad_ne s)
  · rename_i ht
    exact fun he => absurd he ht
theorem len_app : ∀ a b : Fo, len (appF a b) = len a + len b
  | .nil, b => by simp [appF, len]
  | .cons h k r, b => by
    simp only [appF, len, len_app r b]
    omega
theorem len_push (l : Fo) (x : Rd) : len (pushF l x) = len l + 1 := by
  unfold pushF oneF
  rw [len_app]
  rfl
/-- The row so far: its leaves were passed, and where it is one tree it is the last one. -/
theorem rowF_lv {A : Sx → Rd} (hA : ∀ s, Lv s (A s)) {s0 : Sx} : ∀ (f : Nat) (l : Fo) (x : Rd), (x.e = 0 → Steps s0 (leavesF l) x.s) → (len l ≤ 1 → Lv s0 x) → Lv s0 (rowF A f l x)
  | 0, l, x, h, h1 => by
    unfold rowF
    split
    · exact fun he => absurd he (by decide : ¬ (-1 : Int) = 0)
    · rename_i hx
      exact fun he => absurd he hx
  | f + 1, l, x, h, h1 => by
    unfold rowF
    split
    · rename_i hx
      split
      · refine rowF_lv hA f _ _ (fun he => ?_) (fun hl => ?_)
        · rw [leavesF_push]
          exact (h hx).trans (hA _ he)
        · rw [len_push] at hl
          have h0 : len l = 0 := by omega
          have hn : l = .nil := by
            cases l with
            | nil => rfl
            | cons a b c => simp [len] at h0
          intro he
          have h2 := h hx
          rw [hn] at h2
          have := h2.trans (hA _ he)
          exact this
      · split
        · intro he
          rw [leavesN_node (by decide)]
          exact h hx
        · rename_i hl
          exact h1 (by omega)
    · rename_i hx
      exact fun he => absurd he hx
theorem row_lv {A : Sx → Rd} (hA : ∀ s, Lv s (A s)) (s : Sx) : Lv s (rowR A s) := by
  unfold rowR
  refine rowF_lv hA _ _ _ (fun he => ?_) (fun _ => hA s)
  rw [leavesF_one]
  exact hA s he
theorem arrowF_lv {R : Sx → Rd} (hR : ∀ s, Lv s (R s)) {s0 : Sx} : ∀ (f : Nat) (l : Fo) (s : Sx), Steps s0 (leavesF l) s → Lv s0 (arrowF R f l s)
  | 0, l, s, h => fun he => absurd he (by decide : ¬ (-1 : Int) = 0)
  | f + 1, l, s, h => by
    unfold arrowF
    split
    · rename_i hi
      split
      · rename_i hr
        refine arrowF_lv hR f _ _ ?_
        rw [leavesF_push, leavesF_push]
        exact (h.trans (is_lv hi (by decide))).trans (hR _ hr)
      · rename_i hr
        exact fun he => absurd he hr
    · intro he
      rw [leavesN_node (by decide)]
      exact h
theorem arrows_lv {R : Sx → Rd} (hR : ∀ s, Lv s (R s)) {s0 : Sx} {x : Rd} (h : Lv s0 x) : Lv s0 (arrowsR R x) := by
  unfold arrowsR
  split
  · rename_i hi
    refine arrowF_lv hR _ _ _ ?_
    rw [leavesF_one]
    exact h hi.1
  · exact h
theorem clean_lv {s : Sx} {x : Rd} (h : Lv s x) : Lv s (cleanR x) := by
  unfold cleanR
  split
  · exact h
  · rename_i hx
    exact fun he => absurd he hx
theorem type_lv : ∀ (d : Nat) (s : Sx), Lv s (typeN d s)
  | 0, s => fun he => absurd he (by decide : ¬ (2 : Int) = 0)
  | d + 1, s => by
    have hA := atom_lv (fun s => type_lv d s)
    exact clean_lv (arrows_lv (row_lv hA) (row_lv hA s))
theorem full_lv {T : Sx → Rd} (hT : ∀ s, Lv s (T s)) (s : Sx) : Lv s (fullR T s) := by
  have hA := atom_lv hT
  unfold fullR
  dsimp only
  split
  · rename_i hi
    refine clean_lv fun he => ?_
    dsimp only at he ⊢
    rw [leavesN_node (by decide), leavesF_push, leavesF_push, leavesF_one]
    exact ((row_lv hA s hi.1).trans (is_lv hi.2 (by decide))).trans (arrows_lv (row_lv hA) (row_lv hA _) he)
  · exact clean_lv (arrows_lv (row_lv hA) (row_lv hA s))
/-- L5: the leaves are the tokens passed. -/
theorem full_steps (s : Sx) (deep : Int) (h : (fullS s deep).e = 0) : Steps s (leavesN (fullS s deep).h (fullS s deep).k) (fullS s deep).s := by
  unfold fullS at h ⊢
  split at h
  · cases h
  · rename_i hd
    rw [if_neg hd]
    exact full_lv (fun s => type_lv _ s) s h

/-! ### With some depth as with any greater one -/

theorem clean_e (x : Rd) : (cleanR x).e = x.e := by
  unfold cleanR
  split
  · rfl
  · rfl
theorem arrows_e {R : Sx → Rd} {x : Rd} (h : x.e ≠ 0) : (arrowsR R x).e = x.e := by
  unfold arrowsR
  rw [if_neg (fun q => h q.1)]
end Go.Proofs.YtmgclgojmckfhaaGreatDoor.Typ
/-
  Sizes stay as small as they were, whatever is read of a state. No program is run here.
-/
namespace Go.Proofs.YtmgclgojmckfhaaGreatDoor.Typ
open Tks Mrk Lay Tre Go.RowKit
set_option linter.unusedSimpArgs false
set_option linter.unusedVariables false
set_option linter.unusedSectionVars false

theorem nextR_room (l : List Tk) : ∀ (r : List Tk) (i : Nat) (o : List Int) (w : Int), r = l.drop i → (nextR r i o w).opn.length + (l.length - (nextR r i o w).at_) ≤ o.length + (l.length - i)
  | [], i, o, w, hr => by
    unfold nextR
    split
    · exact Nat.le_refl _
    · split
      · dsimp only
        rw [List.length_dropLast]
        omega
      · exact Nat.le_refl _
  | t :: r, i, o, w, hr => by
    have hi : i < l.length := by
      rcases Nat.lt_or_ge i l.length with q | q
      · exact q
      · rw [List.drop_eq_nil_of_le q] at hr
        cases hr
    have hr2 : r = l.drop (i + 1) := by
      rw [List.drop_eq_getElem_cons hi] at hr
      injection hr
    have hd : o.dropLast.length ≤ o.length := by
      rw [List.length_dropLast]
      omega
    have ha : ∀ c : Int, (o ++ [c]).length = o.length + 1 := fun c => by simp
    unfold nextR
    split
    · split
      · dsimp only
        rw [ha]
        omega
      · exact Nat.le_refl _
    · split
      · exact Nat.le_refl _
      · split
        · split
          · dsimp only
            omega
          · split
            · dsimp only
              omega
            · have := nextR_room l r (i + 1) o 0 hr2
              omega
        · split
          · split
            · exact Nat.le_refl _
            · dsimp only
              omega
          · split
            · dsimp only
              rw [ha]
              omega
            · dsimp only
              omega
def Fits (N : Nat) (s : Sx) : Prop := s.toks.length ≤ N ∧ s.opn.length + (s.toks.length - s.at_.toNat) ≤ N
theorem Fits.nine {N : Nat} {s : Sx} (h : Fits N s) (hN : N ≤ 1099511627776) : Fit9 s := ⟨Nat.le_trans h.1 hN, by have := h.2; omega⟩
section
variable {N : Nat}
theorem fits_next {s : Sx} (h : Fits N s) : Fits N (nx s) := by
  unfold nx nextS
  split
  · refine ⟨h.1, ?_⟩
    have := nextR_room s.toks (s.toks.drop s.at_.toNat) s.at_.toNat s.opn s.wait rfl
    have h2 := h.2
    dsimp only
    rw [Int.toNat_natCast]
    unfold nextL
    omega
  · exact ⟨Nat.zero_le _, Nat.zero_le _⟩
theorem fits_take {s : Sx} (h : Fits N s) : Fits N (takeR s).s := by
  unfold takeR
  split
  · exact fits_next h
  · exact h
theorem fits_bad {s : Sx} (h : Fits N s) : Fits N (badR s).s := by
  unfold badR
  split <;> exact h
theorem fits_want {s : Sx} (h : Fits N s) (k : Int) (x : List UInt8) : Fits N (wantR s k x).s := by
  unfold wantR
  split
  · exact fits_take h
  · exact fits_bad h
theorem fits_close {s : Sx} (h : Fits N s) (kind : Int) (c : UInt8) (l : Fo) : Fits N (closeR kind c l s).s := by
  unfold closeR
  split <;> exact fits_want h _ _
theorem fits_commas : ∀ (f : Nat) (l : Fo) (s : Sx), Fits N s → Fits N (commasR f l s).s
  | 0, l, s, h => h
  | f + 1, l, s, h => by
    unfold commasR
    split
    · exact fits_commas f _ _ (fits_take h)
    · exact fits_close h _ _ _
variable {T : Sx → Rd} (hT : ∀ s, Fits N s → Fits N (T s).s)
include hT
theorem fits_types : ∀ (f : Nat) (kind : Int) (l : Fo) (s : Sx), Fits N s → Fits N (typesR T f kind l s).s
  | 0, kind, l, s, h => h
  | f + 1, kind, l, s, h => by
    unfold typesR
    split
    · split
      · exact fits_types f _ _ _ (fits_take (hT s h))
      · exact fits_close (hT s h) _ _ _
    · exact hT s h
theorem fits_round {s : Sx} (h : Fits N s) (l : Fo) : Fits N (roundR T l s).s := by
  unfold roundR
  split
  · exact fits_commas _ _ _ h
  · split
    · exact fits_close (fits_take h) _ _ _
    · exact fits_types hT _ _ _ _ h
theorem fits_square {s : Sx} (h : Fits N s) (l : Fo) : Fits N (squareR T l s).s := by
  unfold squareR
  split
  · exact fits_close h _ _ _
  · split
    · exact fits_close (hT s h) _ _ _
    · exact hT s h
theorem fits_atom {s : Sx} (h : Fits N s) : Fits N (atomR T s).s := by
  unfold atomR
  split
  · split
    · split
      · exact fits_round hT (fits_take h) _
      · split
        · exact fits_square hT (fits_take h) _
        · exact fits_take h
    · exact fits_bad h
  · exact fits_take h
omit hT
variable {A : Sx → Rd} (hA : ∀ s, Fits N s → Fits N (A s).s)
include hA
theorem fits_rowF : ∀ (f : Nat) (l : Fo) (x : Rd), Fits N x.s → Fits N (rowF A f l x).s
  | 0, l, x, h => by
    unfold rowF
    split <;> exact h
  | f + 1, l, x, h => by
    unfold rowF
    split
    · split
      · exact fits_rowF f _ _ (hA _ h)
      · split <;> exact h
    · exact h
theorem fits_row {s : Sx} (h : Fits N s) : Fits N (rowR A s).s := fits_rowF hA _ _ _ (hA s h)
omit hA
variable {R : Sx → Rd} (hR : ∀ s, Fits N s → Fits N (R s).s)
include hR
theorem fits_arrowF : ∀ (f : Nat) (l : Fo) (s : Sx), Fits N s → Fits N (arrowF R f l s).s
  | 0, l, s, h => h
  | f + 1, l, s, h => by
    unfold arrowF
    split
    · split
      · exact fits_arrowF f _ _ (hR _ (fits_take h))
      · exact hR _ (fits_take h)
    · exact h
theorem fits_arrows {x : Rd} (h : Fits N x.s) : Fits N (arrowsR R x).s := by
  unfold arrowsR
  split
  · exact fits_arrowF hR _ _ _ h
  · exact h
omit hR
theorem fits_clean {x : Rd} (h : Fits N x.s) : Fits N (cleanR x).s := by
  unfold cleanR
  split <;> exact h
theorem fits_type : ∀ (d : Nat) (s : Sx), Fits N s → Fits N (typeN d s).s
  | 0, s, h => h
  | d + 1, s, h => by
    have hA := fun s h => fits_atom (fun s h => fits_type d s h) (s := s) h
    exact fits_clean (fits_arrows (fun s h => fits_row hA h) (fits_row hA h))
include hT in
end
end Go.Proofs.YtmgclgojmckfhaaGreatDoor.Typ
/-
  States whose slices lie in blocks of which something holds; what is wanted of Next so. No program is run here.
-/
namespace Go.Proofs.YtmgclgojmckfhaaGreatDoor.Typ
open Tks Tre Go.RowKit
open Lay (Sx StV Fit9 nextS NextOut tkV9 IntArg zeroS From)
set_option linter.unusedSimpArgs false
set_option linter.unusedVariables false

/-- A slice that holds something lies in a block of which P holds. -/
def Off (P : Nat → Prop) (v : Value) : Prop := ∀ (b off m c : Nat), v = .slice (some ⟨b, off, none⟩) m c → m ≠ 0 → P b
/-- A state in memory, its slices in blocks of which P holds. -/
structure StOn (W : World) (P : Nat → Prop) (tv ov : Value) (s : Sx) : Prop where
  tk : TkArg W tv s.toks
  op : IntArg W ov s.opn
  pt : Off P tv
  po : Off P ov
theorem tk_lt {W : World} {v : Value} {l : List Tk} (h : TkArg W v l) {b off m c : Nat} (e : v = .slice (some ⟨b, off, none⟩) m c) (hm : m ≠ 0) : m = l.length ∧ b < W.heap.size := by
  rcases h with ⟨_, a, c2, e2⟩ | ⟨b2, off2, c2, e2, hlt, _⟩
  · rw [e] at e2
    cases e2
    exact absurd rfl hm
  · rw [e] at e2
    cases e2
    exact ⟨rfl, hlt⟩
theorem int_lt {W : World} {v : Value} {l : List Int} (h : IntArg W v l) {b off m c : Nat} (e : v = .slice (some ⟨b, off, none⟩) m c) (hm : m ≠ 0) : m = l.length ∧ b < W.heap.size := by
  rcases h with ⟨_, a, c2, e2⟩ | ⟨b2, off2, c2, e2, _, hlt, _⟩
  · rw [e] at e2
    cases e2
    exact absurd rfl hm
  · rw [e] at e2
    cases e2
    exact ⟨rfl, hlt⟩
theorem StOn.kept {W W' : World} {P P' : Nat → Prop} {tv ov : Value} {s : Sx} (h : StOn W P tv ov s) (hs : W.heap.size ≤ W'.heap.size) (hk : ∀ b, b < W.heap.size → P b → W'.heap[b]? = W.heap[b]? ∧ P' b) : StOn W' P' tv ov s where
  tk := Lay.TkArg.moved h.tk hs (fun b off c e hl => (hk b (tk_lt h.tk e hl).2 (h.pt b off _ c e hl)).1)
  op := h.op.moved hs (fun b off c e hl => (hk b (int_lt h.op e hl).2 (h.po b off _ c e hl)).1)
  pt := fun b off m c e hm => (hk b (tk_lt h.tk e hm).2 (h.pt b off m c e hm)).2
  po := fun b off m c e hm => (hk b (int_lt h.op e hm).2 (h.po b off m c e hm)).2
theorem StOn.below {W W' : World} {P : Nat → Prop} {tv ov : Value} {s : Sx} {B : Nat} (h : StOn W P tv ov s) (hb : Below B W W') (hB : W.heap.size ≤ B) : StOn W' P tv ov s :=
  h.kept hb.size (fun b hlt hp => ⟨hb.block b (Nat.lt_of_lt_of_le hlt hB), hp⟩)
theorem StOn.less {W : World} {P P' : Nat → Prop} {tv ov : Value} {s : Sx} (h : StOn W P tv ov s) (hp : ∀ b, b < W.heap.size → P b → P' b) : StOn W P' tv ov s := h.kept (Nat.le_refl _) (fun b hb q => ⟨rfl, hp b hb q⟩)
theorem StOn.len {W : World} {P : Nat → Prop} {tv ov : Value} {s : Sx} (h : StOn W P tv ov s) : ∃ ta tc oa oc, tv = .slice ta s.toks.length tc ∧ ov = .slice oa s.opn.length oc := by
  obtain ⟨a, c, e⟩ := h.tk.len
  obtain ⟨a2, c2, e2⟩ := h.op.len
  exact ⟨a, c, a2, c2, e, e2⟩
/-- A state that was given: all its blocks are there. -/
theorem StOn.of {W : World} {tv ov : Value} {s : Sx} (h1 : TkArg W tv s.toks) (h2 : IntArg W ov s.opn) {P : Nat → Prop} (hP : ∀ b, b < W.heap.size → P b) : StOn W P tv ov s :=
  ⟨h1, h2, fun b off m c e hm => hP b (tk_lt h1 e hm).2, fun b off m c e hm => hP b (int_lt h2 e hm).2⟩
theorem StOn.zero (W : World) (P : Nat → Prop) : StOn W P (.slice none 0 0) (.slice none 0 0) zeroS :=
  ⟨.inl ⟨rfl, _, _, rfl⟩, .inl ⟨rfl, _, _, rfl⟩, fun b off m c e => (by cases e), fun b off m c e => (by cases e)⟩
def stV (tv : Value) (a : Int) (ov : Value) (wt : Int) : Value := .agg #[tv, .int .i64 a, ov, .int .i64 wt]
theorem StOn.st {W : World} {P : Nat → Prop} {tv ov : Value} {s : Sx} (h : StOn W P tv ov s) : StV W (stV tv s.at_ ov s.wait) s := ⟨tv, ov, rfl, h.tk, h.op⟩
/-- What is wanted of a Next. -/
def NextOn (f : FuncId) : Prop := ∀ (P : Nat → Prop) (tv ov : Value) (s : Sx) (W : World), StOn W P tv ov s → Fit9 s → (∀ b, W.heap.size ≤ b → P b) →
  Calls Tryz.prog f #[stV tv s.at_ ov s.wait] W fun e w' => ∃ tv' ov', e = .returned (.tuple #[tkV9 (tk s), stV tv' (nx s).at_ ov' (nx s).wait, .int .i64 (er s)]) ∧ StOn w' P tv' ov' (nx s) ∧ Below W.heap.size W w'
/-- What Next tells of where its result lies, at a state that may be. -/
def NextFrom (f : FuncId) : Prop := ∀ (vt vo : Value) (s : Sx) (W : World), TkArg W vt s.toks → IntArg W vo s.opn → Fit9 s → Lay.okB s = true →
  Calls Tryz.prog f #[stV vt s.at_ vo s.wait] W fun e w' => ∃ vo', e = .returned (.tuple #[tkV9 (tk s), stV vt (nx s).at_ vo' (nx s).wait, .int .i64 (er s)]) ∧ IntArg w' vo' (nx s).opn ∧ From W.heap.size vo vo' ∧ Below W.heap.size W w'
theorem nextOn_of {f : FuncId} (h1 : NextFrom f) (h2 : ∀ (v : Value) (s : Sx) (W : World), StV W v s → Fit9 s → Lay.okB s = false → Calls Tryz.prog f #[v] W (NextOut W s)) : NextOn f := by
  intro P tv ov s W hs hf hP
  cases hk : Lay.okB s with
  | true =>
    refine (h1 tv ov s W hs.tk hs.op hf hk).mono ?_
    rintro e w' ⟨vo', rfl, i1, f1, b1⟩
    have et : (nx s).toks = s.toks := by
      unfold nx nextS
      rw [if_pos hk]
    refine ⟨tv, vo', rfl, ⟨?_, i1, ?_, ?_⟩, b1⟩
    · rw [et]
      exact hs.tk.below b1 (Nat.le_refl _)
    · exact hs.pt
    · intro b off m c e hm
      rcases f1 b off m c e hm with q | ⟨off2, m2, c2, e2, hm2⟩
      · exact hP b q
      · exact hs.po b off2 m2 c2 e2 hm2
  | false =>
    refine (h2 _ s W hs.st hf hk).mono ?_
    rintro e w' ⟨v, rfl, ⟨vt, vo, rfl, a1, a2⟩, b1⟩
    have ez : (nextS s) = (Lay.zeroT, zeroS, 1) := by
      unfold nextS
      rw [if_neg (by rw [hk]; decide)]
    refine ⟨vt, vo, rfl, ⟨a1, a2, ?_, ?_⟩, b1⟩
    · intro b off m c e hm
      rw [ez] at a1
      exact absurd (tk_lt a1 e hm).1 (fun q => hm q)
    · intro b off m c e hm
      rw [ez] at a2
      exact absurd (int_lt a2 e hm).1 (fun q => hm q)
/-- Where Next answers an error, its token is the zero one. -/
theorem nextR_zero : ∀ (r : List Tk) (i : Nat) (o : List Int) (w : Int), (Lay.nextR r i o w).err ≠ 0 → (Lay.nextR r i o w).tok = Lay.zeroT
  | [], i, o, w, h => by
    unfold Lay.nextR at h ⊢
    split at h
    · exact absurd rfl h
    · rename_i h1
      rw [if_neg h1]
      split at h
      · exact absurd rfl h
      · rename_i h2
        rw [if_neg h2]
  | t :: r, i, o, w, h => by
    unfold Lay.nextR at h ⊢
    split at h
    · split at h
      · exact absurd rfl h
      · exact absurd rfl h
    · rename_i h1
      rw [if_neg h1]
      split at h
      · exact absurd rfl h
      · rename_i h2
        rw [if_neg h2]
        split at h
        · rename_i h3
          rw [if_pos h3]
          split at h
          · exact absurd rfl h
          · rename_i h4
            rw [if_neg h4]
            split at h
            · exact absurd rfl h
            · rename_i h5
              rw [if_neg h5]
              exact nextR_zero r _ _ _ h
        · rename_i h3
          rw [if_neg h3]
          split at h
          · rename_i h4
            rw [if_pos h4]
            split at h
            · rename_i h5
              rw [if_pos h5]
            · exact absurd rfl h
          · rename_i h4
            split at h
            · exact absurd rfl h
            · exact absurd rfl h
theorem tk_zero {s : Sx} (h : er s ≠ 0) : tk s = Lay.zeroT := by
  unfold er at h
  unfold tk
  unfold nextS at h ⊢
  split
  · rename_i hk
    rw [if_pos hk] at h
    exact nextR_zero _ _ _ _ h
  · rfl
theorem is_zero {s : Sx} (k : Int) (x : List UInt8) (hk : k ≠ 0) : isR s k x = ((tk s).kind == k && (tk s).text.data.toList == x) := by
  unfold isR
  by_cases h : er s = 0
  · rw [h]
    rfl
  · have h1 : ((tk s).kind == k) = false := by
      rw [tk_zero h]
      exact beq_eq_false_iff_ne.2 (fun e => hk e.symm)
    rw [h1, show (er s == 0) = false from beq_eq_false_iff_ne.2 h]
    rfl
end Go.Proofs.YtmgclgojmckfhaaGreatDoor.Typ
/-
  Rows of trees of the call's own whose kids lie in blocks of which something holds; append of trees just laid. No program is run here.
-/
namespace Go.Proofs.YtmgclgojmckfhaaGreatDoor.Typ
open Tks Tre Go.RowKit
open Lay (Sx StV Fit9 nextS NextOut tkV9 IntArg zeroS From)
set_option linter.unusedSimpArgs false
set_option linter.unusedVariables false

/-- Blocks of which P holds, the row's own one left out. -/
def Px (P : Nat → Prop) (v : Value) (b : Nat) : Prop := P b ∧ v.ownBlock ≠ some b
structure NdP (w : World) (B : Nat) (P : Nat → Prop) (v : Value) (l : List Nv) : Prop where
  row : w.ownsRow B 30 6 v l.length (l.flatMap ndC)
  kid : ∀ x ∈ l, KOn w (Px P v) x.v x.k
  own : ∀ b, v.ownBlock = some b → P b
theorem NdP.slice {w : World} {B : Nat} {P : Nat → Prop} {v : Value} {l : List Nv} (h : NdP w B P v l) : ∃ a c, v = .slice a l.length c := own_len h.row
theorem NdP.lt {w : World} {B : Nat} {P : Nat → Prop} {v : Value} {l : List Nv} (h : NdP w B P v l) {b : Nat} (e : v.ownBlock = some b) : B ≤ b ∧ b < w.heap.size := World.ownsRow.lt h.row b e
theorem row_same {w w' : World} {B size n : Nat} {e : TypeId} {v : Value} {xs : List Value} (h : w.ownsRow B e size v n xs) (hk : ∀ b, v.ownBlock = some b → b < w.heap.size → w'.heap[b]? = w.heap[b]?) : w'.ownsRow B e size v n xs := by
  refine ⟨h.1, h.2.imp id ?_⟩
  rintro ⟨q, cap, cur, rfl, h1, h2, h3⟩
  exact ⟨q, cap, cur, rfl, h1, (hk q rfl (lt_of_block h2)).trans h2, h3⟩
theorem NdP.kept {w w' : World} {B : Nat} {P : Nat → Prop} {v : Value} {l : List Nv} (h : NdP w B P v l) (hs : w.heap.size ≤ w'.heap.size) (hk : ∀ b, b < w.heap.size → v.ownBlock = some b ∨ Px P v b → w'.heap[b]? = w.heap[b]?) : NdP w' B P v l :=
  ⟨row_same h.row (fun b e hb => hk b hb (.inl e)), fun x hx => (h.kid x hx).kept hs (fun b hb hp => ⟨hk b hb (.inr hp), hp⟩), h.own⟩
theorem NdP.less {w : World} {B : Nat} {P P' : Nat → Prop} {v : Value} {l : List Nv} (h : NdP w B P v l) (hk : ∀ b, b < w.heap.size → P b → P' b) : NdP w B P' v l :=
  ⟨h.row, fun x hx => (h.kid x hx).kept (Nat.le_refl _) (fun b hb hp => ⟨rfl, hk b hb hp.1, hp.2⟩), fun b e => hk b (World.ownsRow.lt h.row b e).2 (h.own b e)⟩
theorem NdP.below {w w' : World} {B C : Nat} {P : Nat → Prop} {v : Value} {l : List Nv} (h : NdP w B P v l) (hb : Below C w w') (hC : w.heap.size ≤ C) : NdP w' B P v l :=
  h.kept hb.size (fun b hlt _ => hb.block b (Nat.lt_of_lt_of_le hlt hC))
theorem flat_nd : ∀ l : List Nv, (l.flatMap ndC).length = l.length * 6 := flat_len ndC 6 nd_len
theorem nds_one {w : World} {P : Nat → Prop} {l : List Nv} (h : ∀ x ∈ l, KOn w P x.v x.k) : ∀ u ∈ l.flatMap ndC, u.oneCell' = true := by
  intro u hu
  obtain ⟨x, hx, hu⟩ := List.mem_flatMap.1 hu
  exact ndC_one (h x hx) u hu
/-- A row that was just laid. -/
theorem NdP.lit {w : World} {B : Nat} {P : Nat → Prop} (l : List Nv) {cs : Array Value} (hc : cs.toList = l.flatMap ndC) (hk : ∀ x ∈ l, KOn w P x.v x.k) (hB : B ≤ w.heap.size) (hm : l.length ≤ maxLen) (hP : P w.heap.size) :
    NdP (w.alloc (.cells cs 30)) B P (.slice (some ⟨w.heap.size, 0, none⟩) l.length l.length) l := by
  have h0 : Below w.heap.size w (w.alloc (.cells cs 30)) := (Below.refl _ _).alloc (Nat.le_refl _) _
  refine ⟨?_, fun x hx => (hk x hx).kept h0.size (fun b hb hp => ⟨h0.block b hb, hp, fun e => ?_⟩), fun b e => ?_⟩
  · rw [← hc]
    exact World.ownsRow_lit (base := B) (e := 30) (size := 6) w cs l.length hB hm (by rw [← Array.length_toList, hc, flat_nd])
  · have e2 : w.heap.size = b := by simpa [Value.ownBlock] using e
    omega
  · have e2 : w.heap.size = b := by simpa [Value.ownBlock] using e
    rw [← e2]
    exact hP
/-- A row has grown: the same block, or a new one. -/
structure Mv (w w' : World) (v v' : Value) : Prop where
  grown : w.grownBy w' v.ownBlock
  own : v'.ownBlock = v.ownBlock ∨ ∃ k, v'.ownBlock = some k ∧ w.heap.size ≤ k
theorem Mv.px {w w' : World} {v v' : Value} (h : Mv w w' v v') {P : Nat → Prop} : ∀ b, b < w.heap.size → Px P v b → w'.heap[b]? = w.heap[b]? ∧ Px P v' b := by
  intro b hb hp
  refine ⟨h.grown.block b hb (fun e => hp.2 e.symm), hp.1, fun e => ?_⟩
  rcases h.own with q | ⟨k, q, hk⟩
  · exact hp.2 (q ▸ e)
  · rw [q] at e
    injection e with e
    omega
theorem Mv.st {w w' : World} {v v' : Value} (h : Mv w w' v v') {P : Nat → Prop} {tv ov : Value} {s : Sx} (hs : StOn w (Px P v) tv ov s) : StOn w' (Px P v') tv ov s := hs.kept h.grown.size h.px
theorem Mv.kid {w w' : World} {v v' : Value} (h : Mv w w' v v') {P : Nat → Prop} {kv : Value} {k : Fo} (hs : KOn w (Px P v) kv k) : KOn w' (Px P v') kv k := hs.kept h.grown.size h.px
theorem Mv.lies {w w' : World} {v v' : Value} (h : Mv w w' v v') {b : Nat} {o : Obj} (hl : Lies w b o) (hne : v.ownBlock ≠ some b) : Lies w' b o := (h.grown.block b hl.lt (fun e => hne e.symm)).trans hl
theorem Mv.below {w0 w w' : World} {C B : Nat} {P : Nat → Prop} {v v' : Value} {l : List Nv} (h : Mv w w' v v') (hb : Below C w0 w) (hr : NdP w B P v l) (hC : C ≤ B) (hB : B ≤ w.heap.size) : Below C w0 w' :=
  Below.grown hb h.grown (by omega) (fun k hk => by have := (hr.lt hk).1; omega)
theorem NdP.push {w w' : World} {B : Nat} {P : Nat → Prop} {v v' : Value} {l m : List Nv} (h : NdP w B P v l) (hx : ∀ x ∈ m, KOn w (Px P v) x.v x.k)
    (hn : w'.ownsRow B 30 6 v' (l.length + m.length) (l.flatMap ndC ++ m.flatMap ndC)) (hg : Mv w w' v v') (hF : ∀ b, w.heap.size ≤ b → P b) : NdP w' B P v' (l ++ m) := by
  refine ⟨by rw [List.length_append, List.flatMap_append]; exact hn, fun y hy => hg.kid ?_, fun b e => ?_⟩
  rotate_left
  · rcases hg.own with q | ⟨k, q, hk⟩
    · exact h.own b (q ▸ e)
    · rw [q] at e
      injection e with e
      exact hF b (e ▸ hk)
  rcases List.mem_append.1 hy with hy | hy
  · exact h.kid y hy
  · exact hx y hy
/-- append of trees that were just laid. -/
theorem append_lit (wr : World) {ops : Array Oper} {rest : List Oper} {o : Oper} {a : Act} {Q : Exit → Act → World → Prop} (hg : o.guard = none) (sl x : Operand) (hop : o.op = Op.call { callee := Callee.builtin Builtin.append, args := #[sl, x], argTypes := #[28, 28] })
    (B : Nat) (P : Nat → Prop) (v : Value) (l m : List Nv) (hs : a.eval sl = v) (hown : NdP wr B P v l) (cs : Array Value) (ty : TypeId) (hc : cs.toList = m.flatMap ndC) (n c : Nat) (hx : a.eval x = .slice (some ⟨wr.heap.size, 0, none⟩) n c) (hn : n = m.length) (hk : ∀ x ∈ m, KOn wr (Px P v) x.v x.k) (b1 : l.length + m.length ≤ 1099511627776) (hB : B ≤ wr.heap.size) (hF : ∀ b, wr.heap.size ≤ b → P b)
    (hK : ∀ v' w', NdP w' B P v' (l ++ m) → Mv wr w' v v' → wpList Tryz.prog ops Q rest (a.put o.dst v') w') :
    wpList Tryz.prog ops Q (o :: rest) a (wr.alloc (.cells cs ty)) := by
  subst hn
  obtain ⟨i0, hi, hz0, hz1, hz2⟩ := info_parts infoNd
  have h0 : Below wr.heap.size wr (wr.alloc (.cells cs ty)) := (Below.refl _ _).alloc (Nat.le_refl _) _
  have h1 := hown.below h0 (Nat.le_refl _)
  have s1 : (wr.alloc (.cells cs ty)).heap.size = wr.heap.size + 1 := Array.size_push _
  have hk1 : ∀ x ∈ m, KOn (wr.alloc (.cells cs ty)) (Px P v) x.v x.k := fun x hx => (hk x hx).below h0 (Nat.le_refl _)
  refine wpList_append_own_at _ hg sl x 28 hop B 30 i0 _ 6 72 Tryz.underlying28 hi hz0 hz1 hz2 rfl (by decide) v l.length (l.flatMap ndC) hs h1.row ⟨wr.heap.size, 0, none⟩ m.length c (m.flatMap ndC) hx (flat_nd m) ?_ (nds_one hk1) (by unfold maxLen; omega) (by omega) (by omega) ?_
  · intro j u hu
    rw [add_plain, new_cell]
    rw [← hc, Array.getElem?_toList] at hu
    exact hu
  · intro v' w' r1 r2 _ r4
    have mv1 : Mv (wr.alloc (.cells cs ty)) w' v v' := ⟨r2, r4.imp id (fun e => ⟨_, e, Nat.le_refl _⟩)⟩
    refine hK v' w' (h1.push hk1 r1 mv1 (fun b hb => hF b (by omega))) ⟨⟨r2.os.trans h0.os, r2.tape.trans h0.tape, r2.output.trans h0.output, Nat.le_trans h0.size r2.size, fun k hk9 hne => (r2.block k (by omega) hne).trans (h0.block k hk9)⟩, r4.imp id (fun e => ⟨_, e, by omega⟩)⟩
theorem NdP.on {w : World} {B : Nat} {P : Nat → Prop} {v : Value} {l : List Nv} (h : NdP w B P v l) (hm : l.length ≤ maxLen) : KOn w P v (foL l) := by
  have hr := h.row
  rcases hr.2 with ⟨rfl, h0⟩ | ⟨g, cap, cur, rfl, hb, hg, _⟩
  · obtain rfl : l = [] := List.eq_nil_of_length_eq_zero h0
    exact .inl ⟨rfl, _, _, rfl⟩
  · refine .inr ⟨g, 0, cap, by rw [len_foL], by rw [len_foL]; exact hm, lt_of_block hg, h.own g rfl, fo_cells l 0 (fun i x hx k hk => ?_) (fun x hx => (h.kid x hx).less (fun b hp => hp.1))⟩
    have h0 := flat_at ndC 6 nd_len l i k x hx hk
    obtain ⟨u, hu⟩ : ∃ u, (ndC x)[k]? = some u := ⟨_, List.getElem?_eq_getElem (by rw [nd_len]; exact hk)⟩
    rw [hu] at h0 ⊢
    have := World.ownsRow.cells hr (g := g) rfl _ _ h0
    rw [add_plain] at this
    rw [Nat.zero_add]
    exact this
theorem foL_app : ∀ a b : List Nv, foL (a ++ b) = appF (foL a) (foL b)
  | [], b => rfl
  | x :: a, b => by
    show Fo.cons x.h x.k (foL (a ++ b)) = Fo.cons x.h x.k (appF (foL a) (foL b))
    rw [foL_app a b]
theorem KOn.kx {w : World} {P P' : Nat → Prop} {v : Value} {k : Fo} (h : KOn w P v k) (hp : ∀ b, b < w.heap.size → P b → P' b) : KOn w P' v k := h.kept (Nat.le_refl _) (fun b hb q => ⟨rfl, hp b hb q⟩)
theorem KOn.ln {w : World} {P : Nat → Prop} {v : Value} {k : Fo} (h : KOn w P v k) : ∃ a c, v = .slice a (len k) c := h.arg.len
def lenOf : Value → Nat
  | .slice _ n _ => n
  | _ => 0
end Go.Proofs.YtmgclgojmckfhaaGreatDoor.Typ
