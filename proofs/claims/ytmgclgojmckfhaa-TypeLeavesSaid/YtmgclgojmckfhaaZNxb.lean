/-
  What lies where while the document's own Next looks on; its loop's body. No program is run here.
-/
import Derived.Test.YtmgclgojmckfhaaZRg
import Derived.Deep.CutRange
namespace Go.Proofs.Ytmgclgojmckfhaa.Lay
open Tks Mrk Go.RowKit
set_option linter.unusedSimpArgs false
set_option linter.unusedVariables false

/-- What lies where while Next looks on: the state's block, the two results' blocks. -/
structure Hold (w : World) (B1 B2 : Nat) (wr : World) (vt vo : Value) (k : Int) (wt : Int) : Prop where
  st : Lies wr w.heap.size (stO vt k vo wt)
  r1 : Lies wr B1 (tkO zeroT)
  r2 : Lies wr B2 (stO (.slice none 0 0) 0 (.slice none 0 0) 0)
  bel : Below w.heap.size w wr
theorem Hold.below {w wr wr' : World} {B1 B2 : Nat} {vt vo : Value} {k : Int} {wt : Int} (h : Hold w B1 B2 wr vt vo k wt) (hb : Below wr.heap.size wr wr') : Hold w B1 B2 wr' vt vo k wt :=
  ⟨h.st.below hb h.st.lt, h.r1.below hb h.r1.lt, h.r2.below hb h.r2.lt, afterL h.bel hb⟩
theorem tokLies {W : World} {B : Nat} {t : Tk} (h : Lies W B (tkO t)) :
    W.cell? ⟨B, 0, none⟩ = some (.int .i64 t.kind) ∧ W.cell? ⟨B, 1, none⟩ = some (.string t.text) ∧ W.cell? ⟨B, 2, none⟩ = some (.int .i64 t.line) ∧ W.cell? ⟨B, 3, none⟩ = some (.int .i64 t.col) ∧ W.frozen? ⟨B, 0, none⟩ = false ∧ W.frozen? ⟨B, 1, none⟩ = false ∧ W.frozen? ⟨B, 2, none⟩ = false ∧ W.frozen? ⟨B, 3, none⟩ = false :=
  ⟨(Lies.cell h 0).trans rfl, (Lies.cell h 1).trans rfl, (Lies.cell h 2).trans rfl, (Lies.cell h 3).trans rfl, Lies.free h 0, Lies.free h 1, Lies.free h 2, Lies.free h 3⟩
theorem three_lie (w : World) (o1 o2 o3 : Obj) : Lies (((w.alloc o1).alloc o2).alloc o3) w.heap.size o1 ∧ Lies (((w.alloc o1).alloc o2).alloc o3) (w.heap.size + 1) o2 ∧ Lies (((w.alloc o1).alloc o2).alloc o3) (w.heap.size + 1 + 1) o3 := by
  refine ⟨(two_lie w o1 o2).1.alloc o3, (two_lie w o1 o2).2.alloc o3, ?_⟩
  have := Lies.new ((w.alloc o1).alloc o2) o3
  rwa [World.size_alloc, World.size_alloc] at this
theorem below_three (w : World) (o1 o2 o3 : Obj) : Below w.heap.size w (((w.alloc o1).alloc o2).alloc o3) := (below_two w o1 o2).alloc (below_two w o1 o2).size o3
theorem Lies.set {W : World} {B : Nat} {cs : Array Value} {t : TypeId} {fr : Nat × Nat} (h : Lies W B (.cells cs t fr)) (j : Nat) (u : Value) : Lies (W.setCell ⟨B, j, none⟩ u) B (.cells (cs.setIfInBounds j u) t fr) := by
  unfold Lies at h ⊢
  unfold World.setCell
  rw [Array.getElem?_modify, if_pos rfl, h]
  simp
theorem Lies.other {W : World} {B B' : Nat} {o : Obj} (h : Lies W B o) (hne : ¬ B = B') (j : Nat) (u : Value) : Lies (W.setCell ⟨B', j, none⟩ u) B o := (Below.heap_setCell _ _ _ B hne).trans h
theorem Lies.drew {W : World} {B : Nat} {o : Obj} (h : Lies W B o) : Lies W.drew B o := h
theorem gen_world {c : Code} {Q : Exit → Act → World → Prop} {a : Act} {W : World} (P : World → Prop) (h : P W) (k : ∀ X, P X → c.wp Try.prog Q a X) : c.wp Try.prog Q a W := k _ h
theorem bdrew {n : Nat} {W W' : World} (h : Below n W W') : Below n W W'.drew := ⟨h.os, h.tape, h.output, h.size, h.block⟩
theorem undrew1 {n : Nat} {W W' : World} (h : Below n W.drew W') : Below n W W' := ⟨h.os, h.tape, h.output, h.size, h.block⟩
/-- A slice that holds something lies no lower than n. -/
def Fresh (n : Nat) (v : Value) : Prop := ∀ (b off m c : Nat), v = .slice (some ⟨b, off, none⟩) m c → m ≠ 0 → n ≤ b
theorem IntOwn.fresh {w : World} {B n : Nat} {v : Value} {l : List Int} (h : IntOwn w B v l) (hn : n ≤ B) : Fresh n v := by
  intro b off m c e hm
  rcases h.2 with ⟨rfl, h0⟩ | ⟨g, cap, cur, rfl, hb, _⟩
  · cases e
  · cases e
    exact Nat.le_trans hn hb
/-- A state that came of another: the tokens' slice is the same, the blocks' slice is the same or a new one. -/
def StF (w : World) (vt vo : Value) (w' : World) (v : Value) (s : Sx) : Prop := ∃ vo', v = .agg #[vt, .int .i64 s.at_, vo', .int .i64 s.wait] ∧ TkArg w' vt s.toks ∧ IntArg w' vo' s.opn ∧ (vo' = vo ∨ Fresh w.heap.size vo')
theorem StF.st {w w' : World} {vt vo v : Value} {s : Sx} (h : StF w vt vo w' v s) : StV w' v s := by
  obtain ⟨vo', e, h1, h2, -⟩ := h
  exact ⟨vt, vo', e, h1, h2⟩
/-- What the results hold in the end. -/
theorem fin_same {w W : World} {B1 B2 : Nat} {vt vo : Value} {toks : List Tk} {o : List Int} (h : Below w.heap.size w W) (h1 : w.heap.size ≤ B1) (h2 : w.heap.size ≤ B2) (ht : TkArg w vt toks) (ho : IntArg w vo o) (a b c d e f g k : Value) :
    TkArg (set4 (set4 W B1 a b c d) B2 e f g k).drew vt toks ∧ IntArg (set4 (set4 W B1 a b c d) B2 e f g k).drew vo o ∧ Below w.heap.size w (set4 (set4 W B1 a b c d) B2 e f g k).drew ∧ (vo = vo ∨ Fresh w.heap.size vo) := by
  have hb := bdrew (set4_below (set4_below h h1 a b c d) h2 e f g k)
  exact ⟨ht.below hb (Nat.le_refl _), ho.below hb (Nat.le_refl _), hb, .inl rfl⟩
theorem fin_same0 {w W : World} {B1 B2 : Nat} {vt vo : Value} {toks : List Tk} {o : List Int} (h : Below w.heap.size w W) (h1 : w.heap.size ≤ B1) (h2 : w.heap.size ≤ B2) (ht : TkArg w vt toks) (ho : IntArg w vo o) (a b c d e f g k : Value) :
    TkArg (set4 (set4 W B1 a b c d) B2 e f g k) vt toks ∧ IntArg (set4 (set4 W B1 a b c d) B2 e f g k) vo o ∧ Below w.heap.size w (set4 (set4 W B1 a b c d) B2 e f g k) ∧ (vo = vo ∨ Fresh w.heap.size vo) := by
  have hb := set4_below (set4_below h h1 a b c d) h2 e f g k
  exact ⟨ht.below hb (Nat.le_refl _), ho.below hb (Nat.le_refl _), hb, .inl rfl⟩
theorem fin_own {w W : World} {B1 B2 C : Nat} {vt v0 vo : Value} {toks : List Tk} {o : List Int} (h : Below w.heap.size w W) (h1 : w.heap.size ≤ B1) (h2 : w.heap.size ≤ B2) (h3 : B1 < C) (h4 : B2 < C) (ht : TkArg w vt toks) (ho : IntOwn W C vo o) (a b c d e f g k : Value) :
    TkArg (set4 (set4 W B1 a b c d) B2 e f g k) vt toks ∧ IntArg (set4 (set4 W B1 a b c d) B2 e f g k) vo o ∧ Below w.heap.size w (set4 (set4 W B1 a b c d) B2 e f g k) ∧ (vo = v0 ∨ Fresh w.heap.size vo) := by
  have hb := set4_below (set4_below h h1 a b c d) h2 e f g k
  have ha : Apart w.heap.size C vo := IntOwn.apart ho (Nat.le_refl _)
  have hi := IntArg.set4 (IntArg.set4 (IntOwn.arg ho) ha h1 h3 a b c d) ha h2 h4 e f g k
  exact ⟨ht.below hb (Nat.le_refl _), hi, hb, .inr (IntOwn.fresh ho (Nat.le_trans h1 (Nat.le_of_lt h3)))⟩
theorem fin_ownd {w W : World} {B1 B2 C : Nat} {vt v0 vo : Value} {toks : List Tk} {o : List Int} (h : Below w.heap.size w W) (h1 : w.heap.size ≤ B1) (h2 : w.heap.size ≤ B2) (h3 : B1 < C) (h4 : B2 < C) (ht : TkArg w vt toks) (ho : IntOwn W C vo o) (a b c d e f g k : Value) :
    TkArg (set4 (set4 W B1 a b c d) B2 e f g k).drew vt toks ∧ IntArg (set4 (set4 W B1 a b c d) B2 e f g k).drew vo o ∧ Below w.heap.size w (set4 (set4 W B1 a b c d) B2 e f g k).drew ∧ (vo = v0 ∨ Fresh w.heap.size vo) := by
  obtain ⟨q1, q2, q3, q4⟩ := fin_own (v0 := v0) h h1 h2 h3 h4 ht ho a b c d e f g k
  exact ⟨q1.below (bdrew (Below.refl _ _)) (Nat.le_refl _), q2.below (bdrew (Below.refl _ _)) (Nat.le_refl _), bdrew q3, q4⟩
theorem drop_at9 {l : List Tk} {k : Nat} {t : Tk} (h : l[k]? = some t) : l.drop k = t :: l.drop (k + 1) := by
  obtain ⟨hk, e⟩ := List.getElem?_eq_some_iff.1 h
  rw [List.drop_eq_getElem_cons hk, e]
theorem next_at {toks : List Tk} {k : Nat} {o : List Int} {wt : Int} {t : Tk} (h : toks[k]? = some t) : nextL toks k o wt = nextR (t :: toks.drop (k + 1)) k o wt := by
  unfold nextL
  rw [drop_at9 h]
def intAt (W : World) (B j : Nat) : Nat := match W.cell? ⟨B, j, none⟩ with | some (.int _ n) => n.toNat | _ => 0
theorem Hold.at_ {w wr : World} {B1 B2 : Nat} {vt vo : Value} {k : Nat} {wt : Int} (h : Hold w B1 B2 wr vt vo (k : Int) wt) : intAt wr w.heap.size 1 = k := by
  unfold intAt
  rw [h.st.four.2.1]
  simp
/-- The loop's body, taken out of the program. -/
def firstLoop : Code → Option Code
  | .loop c => some c
  | .seq a b => match firstLoop a with
    | some c => some c
    | none => firstLoop b
  | .block _ c => firstLoop c
  | .cond _ a b => match firstLoop a with
    | some c => some c
    | none => firstLoop b
  | _ => none
noncomputable def nextBody : Code := ((Try.f59.body.bind firstLoop).getD .skip)
end Go.Proofs.Ytmgclgojmckfhaa.Lay
