/-
  The document's own Right, top, at, push, pop and Close at any states. Conditions: at most 2^40 tokens and blocks.
-/
import Derived.Test.YtmgclgojmckfhaaGreatDoorZTk
import Derived.Deep.CutRange
namespace Go.Proofs.YtmgclgojmckfhaaGreatDoor.Lay
open Tks Mrk Go.RowKit
set_option linter.unusedSimpArgs false
set_option linter.unusedVariables false

theorem afterL {w a b : World} (h : Below w.heap.size w a) (k : Below a.heap.size a b) : Below w.heap.size w b := h.trans (k.mono h.size)
theorem wrap_pred (n : Nat) (h0 : 0 < n) (h : n ≤ 1099511627777) : IntKind.i64.wrap ((n : Int) - 1) = ((n - 1 : Nat) : Int) ∧ wrap64 ((n : Int) - 1) = ((n - 1 : Nat) : Int) := by
  have e : wrap64 ((n : Int) - 1) = ((n - 1 : Nat) : Int) := by rw [IntWalk.wrap64_in _ ⟨by omega, by omega⟩]; omega
  exact ⟨by rw [IntWalk.i64_left]; exact e, e⟩
theorem top_at {o : List Int} {m : Nat} (h : o.length = m + 1) : o[m]? = some (topL o) := by
  unfold topL
  rw [List.getLast?_eq_getElem?, h, Nat.add_sub_cancel]
  rw [List.getElem?_eq_getElem (by omega)]
  rfl
/-- A block lies there. -/
def Lies (W : World) (B : Nat) (o : Obj) : Prop := W.heap[B]? = some o
theorem Lies.new (W : World) (o : Obj) : Lies (W.alloc o) W.heap.size o := heap_alloc_new W o
theorem Lies.lt {W : World} {B : Nat} {o : Obj} (h : Lies W B o) : B < W.heap.size := (Array.getElem?_eq_some_iff.1 h).1
theorem Lies.below {W W' : World} {B C : Nat} {o : Obj} (h : Lies W B o) (hb : Below C W W') (hB : B < C) : Lies W' B o := (hb.block B hB).trans h
theorem Lies.alloc {W : World} {B : Nat} {o : Obj} (h : Lies W B o) (p : Obj) : Lies (W.alloc p) B o := h.below ((Below.refl W.heap.size W).alloc (Nat.le_refl _) p) h.lt
theorem Lies.cell {W : World} {B : Nat} {cs : Array Value} {t : TypeId} {fr : Nat × Nat} (h : Lies W B (.cells cs t fr)) (j : Nat) : W.cell? ⟨B, j, none⟩ = cs[j]? := cell_of_row _ _ _ _ _ _ h
theorem Lies.free {W : World} {B : Nat} {cs : Array Value} {t : TypeId} (h : Lies W B (.cells cs t)) (j : Nat) : W.frozen? ⟨B, j, none⟩ = false := by simp [World.frozen?, show W.heap[B]? = _ from h]
def stO (vt : Value) (i : Int) (vo : Value) (w : Int) : Obj := .cells #[vt, .int .i64 i, vo, .int .i64 w] 33
theorem Lies.four {W : World} {B : Nat} {vt vo : Value} {i w : Int} (h : Lies W B (stO vt i vo w)) :
    W.cell? ⟨B, 0, none⟩ = some vt ∧ W.cell? ⟨B, 1, none⟩ = some (.int .i64 i) ∧ W.cell? ⟨B, 2, none⟩ = some vo ∧ W.cell? ⟨B, 3, none⟩ = some (.int .i64 w) ∧ W.frozen? ⟨B, 0, none⟩ = false ∧ W.frozen? ⟨B, 1, none⟩ = false ∧ W.frozen? ⟨B, 2, none⟩ = false ∧ W.frozen? ⟨B, 3, none⟩ = false :=
  ⟨(Lies.cell h 0).trans rfl, (Lies.cell h 1).trans rfl, (Lies.cell h 2).trans rfl, (Lies.cell h 3).trans rfl, Lies.free h 0, Lies.free h 1, Lies.free h 2, Lies.free h 3⟩
theorem IntOwn.less {w : World} {A B : Nat} {v : Value} {l : List Int} (h : IntOwn w B v l) (hb : A ≤ B) : IntOwn w A v l :=
  ⟨h.1, h.2.imp id fun ⟨g, cap, cur, h1, h2, h3⟩ => ⟨g, cap, cur, h1, Nat.le_trans hb h2, h3⟩⟩
/-- A slice that holds something does not lie between two blocks. -/
def Apart (a z : Nat) (v : Value) : Prop := ∀ (b off n c : Nat), v = .slice (some ⟨b, off, none⟩) n c → n ≠ 0 → b < a ∨ z ≤ b
theorem IntOwn.apart {w : World} {B a z : Nat} {v : Value} {l : List Int} (h : IntOwn w B v l) (hz : z ≤ B) : Apart a z v := by
  intro b off n c e hn
  rcases h.2 with ⟨rfl, h0⟩ | ⟨g, cap, cur, rfl, hb, _⟩
  · cases e
  · cases e
    exact .inr (Nat.le_trans hz hb)
theorem TkArg.apart {w : World} {v : Value} {l : List Tk} {z : Nat} (h : TkArg w v l) : Apart w.heap.size z v := by
  intro b off n c e hn
  rcases h with ⟨_, a, q, rfl⟩ | ⟨g, o, q, rfl, hlt, _⟩
  · cases e
    exact absurd rfl hn
  · cases e
    exact .inl hlt
theorem IntArg.apart {w : World} {v : Value} {l : List Int} {z : Nat} (h : IntArg w v l) : Apart w.heap.size z v := by
  intro b off n c e hn
  rcases h with ⟨_, a, q, rfl⟩ | ⟨g, o, q, rfl, _, hlt, _⟩
  · cases e
    exact absurd rfl hn
  · cases e
    exact .inl hlt
theorem other_cell {W : World} {b b' o o' : Nat} (u : Value) (h : b ≠ b') : (W.setCell ⟨b', o', none⟩ u).cell? ⟨b, o, none⟩ = W.cell? ⟨b, o, none⟩ := World.cell?_setCell_other W _ _ u (fun e => h (by cases e; rfl))
theorem TkArg.set {W : World} {v : Value} {l : List Tk} {a z B j : Nat} (h : TkArg W v l) (ha : Apart a z v) (h1 : a ≤ B) (h2 : B < z) (u : Value) : TkArg (W.setCell ⟨B, j, none⟩ u) v l := by
  rcases h with h | ⟨g, off, q, hv, hlt, hc⟩
  · exact .inl h
  · by_cases hl : l.length = 0
    · exact .inl ⟨List.eq_nil_of_length_eq_zero hl, _, _, by rw [hv, hl]⟩
    · have hne : g ≠ B := by
        have := ha g off _ q hv hl
        omega
      refine .inr ⟨g, off, q, hv, ?_, fun i t ht k hk => ?_⟩
      · have := ((Below.refl 0 W).setCell (p := ⟨B, j, none⟩) (Nat.zero_le B) u).size
        omega
      · rw [other_cell u hne]
        exact hc i t ht k hk
theorem IntArg.set {W : World} {v : Value} {l : List Int} {a z B j : Nat} (h : IntArg W v l) (ha : Apart a z v) (h1 : a ≤ B) (h2 : B < z) (u : Value) : IntArg (W.setCell ⟨B, j, none⟩ u) v l := by
  rcases h with h | ⟨g, off, q, hv, hlc, hlt, hc⟩
  · exact .inl h
  · by_cases hl : l.length = 0
    · exact .inl ⟨List.eq_nil_of_length_eq_zero hl, _, _, by rw [hv, hl]⟩
    · have hne : g ≠ B := by
        have := ha g off _ q hv hl
        omega
      refine .inr ⟨g, off, q, hv, hlc, ?_, fun i x hx => ?_⟩
      · have := ((Below.refl 0 W).setCell (p := ⟨B, j, none⟩) (Nat.zero_le B) u).size
        omega
      · rw [other_cell u hne]
        exact hc i x hx
/-- Four cells of one block are written. -/
def set4 (W : World) (B : Nat) (a b c d : Value) : World := (((W.setCell ⟨B, 0, none⟩ a).setCell ⟨B, 1, none⟩ b).setCell ⟨B, 2, none⟩ c).setCell ⟨B, 3, none⟩ d
theorem set4_below {n B : Nat} {W W1 : World} (h : Below n W W1) (hB : n ≤ B) (a b c d : Value) : Below n W (set4 W1 B a b c d) :=
  (((h.setCell (p := ⟨B, 0, none⟩) hB a).setCell (p := ⟨B, 1, none⟩) hB b).setCell (p := ⟨B, 2, none⟩) hB c).setCell (p := ⟨B, 3, none⟩) hB d
theorem TkArg.set4 {W : World} {v : Value} {l : List Tk} {a z B : Nat} (h : TkArg W v l) (ha : Apart a z v) (h1 : a ≤ B) (h2 : B < z) (x y p q : Value) : TkArg (set4 W B x y p q) v l :=
  TkArg.set (TkArg.set (TkArg.set (TkArg.set h ha h1 h2 x) ha h1 h2 y) ha h1 h2 p) ha h1 h2 q
theorem IntArg.set4 {W : World} {v : Value} {l : List Int} {a z B : Nat} (h : IntArg W v l) (ha : Apart a z v) (h1 : a ≤ B) (h2 : B < z) (x y p q : Value) : IntArg (set4 W B x y p q) v l :=
  IntArg.set (IntArg.set (IntArg.set (IntArg.set h ha h1 h2 x) ha h1 h2 y) ha h1 h2 p) ha h1 h2 q
theorem two_lie (w : World) (o1 o2 : Obj) : Lies ((w.alloc o1).alloc o2) w.heap.size o1 ∧ Lies ((w.alloc o1).alloc o2) (w.heap.size + 1) o2 := by
  refine ⟨(Lies.new w o1).alloc o2, ?_⟩
  have := Lies.new (w.alloc o1) o2
  rwa [World.size_alloc] at this
end Go.Proofs.YtmgclgojmckfhaaGreatDoor.Lay
/-
  The document's own Right and Close at any states. Conditions: at most 2^40 tokens and blocks.
-/
namespace Go.Proofs.YtmgclgojmckfhaaGreatDoor.Lay
open Tks Mrk Go.RowKit
set_option linter.unusedSimpArgs false
set_option linter.unusedVariables false

theorem okB_no {s : Sx} (h : ∀ n : Nat, s.at_ = n → ¬ Ok s.toks n s.opn s.wait) : okB s = false := by
  rw [Bool.eq_false_iff]
  intro e
  obtain ⟨n, h1, h2⟩ := (okB_iff s).1 e
  exact h n h1 h2
theorem okB_loop {toks : List Tk} {n : Nat} {opn : List Int} {wait : Int} (h1 : n ≤ toks.length) (h2 : 0 ≤ wait) (h3 : wait ≤ 2) (h4 : 0 < wait → ∃ t, toks[n]? = some t ∧ t.kind = 16) :
    okB ⟨toks, n, opn, wait⟩ = opn.all (fun c => decide (0 ≤ c)) := by
  rw [Bool.eq_iff_iff, okB_iff, List.all_eq_true]
  constructor
  · rintro ⟨m, -, h⟩ c hc
    exact decide_eq_true (h.opn c hc)
  · intro h
    exact ⟨n, rfl, h1, fun c hc => of_decide_eq_true (h c hc), h2, h3, h4⟩
end Go.Proofs.YtmgclgojmckfhaaGreatDoor.Lay
/-
  The document's own Close at any states. Conditions: at most 2^40 tokens and blocks.
-/
namespace Go.Proofs.YtmgclgojmckfhaaGreatDoor.Lay
open Tks Mrk Go.RowKit
set_option linter.unusedSimpArgs false
set_option linter.unusedVariables false

end Go.Proofs.YtmgclgojmckfhaaGreatDoor.Lay
/-
  The document's own Next at a state that may not be. Conditions: at most 2^40 tokens and blocks.
-/
namespace Go.Proofs.YtmgclgojmckfhaaGreatDoor.Lay
open Tks Mrk Go.RowKit
set_option linter.unusedSimpArgs false
set_option linter.unusedVariables false

end Go.Proofs.YtmgclgojmckfhaaGreatDoor.Lay
/-
  The document's own SameState at two values that hold the same state. Conditions: at most 2^40 tokens and blocks.
-/
namespace Go.Proofs.YtmgclgojmckfhaaGreatDoor.Lay
open Tks Mrk Go.RowKit
set_option linter.unusedSimpArgs false
set_option linter.unusedVariables false

end Go.Proofs.YtmgclgojmckfhaaGreatDoor.Lay
/-
  The document's own All. Conditions: at most 3000 tokens.
-/
namespace Go.Proofs.YtmgclgojmckfhaaGreatDoor.Lay
open Tks Mrk Go.RowKit
set_option linter.unusedSimpArgs false
set_option linter.unusedVariables false

theorem Lies.put {W : World} {B : Nat} {cs : Array Value} {t : TypeId} {fr : Nat × Nat} (h : Lies W B (.cells cs t fr)) (j : Nat) (u : Value) : Lies (W.setCell ⟨B, j, none⟩ u) B (.cells (cs.setIfInBounds j u) t fr) := by
  unfold Lies at h ⊢
  unfold World.setCell
  rw [Array.getElem?_modify, if_pos rfl, h]
  simp
/-- A slice that holds something lies no lower than n. -/
def Above (n : Nat) (v : Value) : Prop := ∀ (b off m c : Nat), v = .slice (some ⟨b, off, none⟩) m c → m ≠ 0 → n ≤ b
theorem Above.apart {n : Nat} {v : Value} (h : Above (n + 1) v) : Apart n (n + 1) v := fun b off m c e hm => .inr (h b off m c e hm)
/-- A slice that holds something lies no lower than n, or in the block of another one that holds something. -/
def From (n : Nat) (vo vo' : Value) : Prop := ∀ (b off m c : Nat), vo' = .slice (some ⟨b, off, none⟩) m c → m ≠ 0 → n ≤ b ∨ ∃ off2 m2 c2 : Nat, vo = .slice (some ⟨b, off2, none⟩) m2 c2 ∧ m2 ≠ 0
theorem From.same (n : Nat) (vo : Value) : From n vo vo := fun b off m c e hm => .inr ⟨off, m, c, e, hm⟩
/-- A slice that holds something does not lie in the row's block. -/
def Sep (vo v : Value) : Prop := ∀ (b off m c : Nat), vo = .slice (some ⟨b, off, none⟩) m c → m ≠ 0 → v.ownBlock ≠ some b
end Go.Proofs.YtmgclgojmckfhaaGreatDoor.Lay
/-
  What lies where while the document's own Next looks on; its loop's body. No program is run here.
-/
namespace Go.Proofs.YtmgclgojmckfhaaGreatDoor.Lay
open Tks Mrk Go.RowKit
set_option linter.unusedSimpArgs false
set_option linter.unusedVariables false

/-- What lies where while Next looks on: the state's block, the two results' blocks. -/
structure Hold (w : World) (B1 B2 : Nat) (wr : World) (vt vo : Value) (k : Int) (wt : Int) : Prop where
  st : Lies wr w.heap.size (stO vt k vo wt)
  r1 : Lies wr B1 (tkO zeroT)
  r2 : Lies wr B2 (stO (.slice none 0 0) 0 (.slice none 0 0) 0)
  bel : Below w.heap.size w wr
theorem Hold.below {w wr wr' : World} {B1 B2 : Nat} {vt vo : Value} {k : Int} {wt : Int} (h : Hold w B1 B2 wr vt vo k wt) (hb : Below wr.heap.size wr wr') : Hold w B1 B2 wr' vt vo k wt :=
  ⟨h.st.below hb h.st.lt, h.r1.below hb h.r1.lt, h.r2.below hb h.r2.lt, afterL h.bel hb⟩
theorem tokLies {W : World} {B : Nat} {t : Tk} (h : Lies W B (tkO t)) :
    W.cell? ⟨B, 0, none⟩ = some (.int .i64 t.kind) ∧ W.cell? ⟨B, 1, none⟩ = some (.string t.text) ∧ W.cell? ⟨B, 2, none⟩ = some (.int .i64 t.line) ∧ W.cell? ⟨B, 3, none⟩ = some (.int .i64 t.col) ∧ W.frozen? ⟨B, 0, none⟩ = false ∧ W.frozen? ⟨B, 1, none⟩ = false ∧ W.frozen? ⟨B, 2, none⟩ = false ∧ W.frozen? ⟨B, 3, none⟩ = false :=
  ⟨(Lies.cell h 0).trans rfl, (Lies.cell h 1).trans rfl, (Lies.cell h 2).trans rfl, (Lies.cell h 3).trans rfl, Lies.free h 0, Lies.free h 1, Lies.free h 2, Lies.free h 3⟩
theorem three_lie (w : World) (o1 o2 o3 : Obj) : Lies (((w.alloc o1).alloc o2).alloc o3) w.heap.size o1 ∧ Lies (((w.alloc o1).alloc o2).alloc o3) (w.heap.size + 1) o2 ∧ Lies (((w.alloc o1).alloc o2).alloc o3) (w.heap.size + 1 + 1) o3 := by
  refine ⟨(two_lie w o1 o2).1.alloc o3, (two_lie w o1 o2).2.alloc o3, ?_⟩
  have := Lies.new ((w.alloc o1).alloc o2) o3
  rwa [World.size_alloc, World.size_alloc] at this
theorem below_three (w : World) (o1 o2 o3 : Obj) : Below w.heap.size w (((w.alloc o1).alloc o2).alloc o3) := (below_two w o1 o2).alloc (below_two w o1 o2).size o3
theorem Lies.set {W : World} {B : Nat} {cs : Array Value} {t : TypeId} {fr : Nat × Nat} (h : Lies W B (.cells cs t fr)) (j : Nat) (u : Value) : Lies (W.setCell ⟨B, j, none⟩ u) B (.cells (cs.setIfInBounds j u) t fr) := by
  unfold Lies at h ⊢
  unfold World.setCell
  rw [Array.getElem?_modify, if_pos rfl, h]
  simp
theorem Lies.other {W : World} {B B' : Nat} {o : Obj} (h : Lies W B o) (hne : ¬ B = B') (j : Nat) (u : Value) : Lies (W.setCell ⟨B', j, none⟩ u) B o := (Below.heap_setCell _ _ _ B hne).trans h
theorem Lies.drew {W : World} {B : Nat} {o : Obj} (h : Lies W B o) : Lies W.drew B o := h
theorem gen_world {c : Code} {Q : Exit → Act → World → Prop} {a : Act} {W : World} (P : World → Prop) (h : P W) (k : ∀ X, P X → c.wp Tryz.prog Q a X) : c.wp Tryz.prog Q a W := k _ h
theorem bdrew {n : Nat} {W W' : World} (h : Below n W W') : Below n W W'.drew := ⟨h.os, h.tape, h.output, h.size, h.block⟩
/-- A slice that holds something lies no lower than n. -/
def Fresh (n : Nat) (v : Value) : Prop := ∀ (b off m c : Nat), v = .slice (some ⟨b, off, none⟩) m c → m ≠ 0 → n ≤ b
theorem IntOwn.fresh {w : World} {B n : Nat} {v : Value} {l : List Int} (h : IntOwn w B v l) (hn : n ≤ B) : Fresh n v := by
  intro b off m c e hm
  rcases h.2 with ⟨rfl, h0⟩ | ⟨g, cap, cur, rfl, hb, _⟩
  · cases e
  · cases e
    exact Nat.le_trans hn hb
/-- A state that came of another: the tokens' slice is the same, the blocks' slice is the same or a new one. -/
def StF (w : World) (vt vo : Value) (w' : World) (v : Value) (s : Sx) : Prop := ∃ vo', v = .agg #[vt, .int .i64 s.at_, vo', .int .i64 s.wait] ∧ TkArg w' vt s.toks ∧ IntArg w' vo' s.opn ∧ (vo' = vo ∨ Fresh w.heap.size vo')
theorem StF.st {w w' : World} {vt vo v : Value} {s : Sx} (h : StF w vt vo w' v s) : StV w' v s := by
  obtain ⟨vo', e, h1, h2, -⟩ := h
  exact ⟨vt, vo', e, h1, h2⟩
theorem drop_at9 {l : List Tk} {k : Nat} {t : Tk} (h : l[k]? = some t) : l.drop k = t :: l.drop (k + 1) := by
  obtain ⟨hk, e⟩ := List.getElem?_eq_some_iff.1 h
  rw [List.drop_eq_getElem_cons hk, e]
theorem next_at {toks : List Tk} {k : Nat} {o : List Int} {wt : Int} {t : Tk} (h : toks[k]? = some t) : nextL toks k o wt = nextR (t :: toks.drop (k + 1)) k o wt := by
  unfold nextL
  rw [drop_at9 h]
def intAt (W : World) (B j : Nat) : Nat := match W.cell? ⟨B, j, none⟩ with | some (.int _ n) => n.toNat | _ => 0
theorem Hold.at_ {w wr : World} {B1 B2 : Nat} {vt vo : Value} {k : Nat} {wt : Int} (h : Hold w B1 B2 wr vt vo (k : Int) wt) : intAt wr w.heap.size 1 = k := by
  unfold intAt
  rw [h.st.four.2.1]
  simp
end Go.Proofs.YtmgclgojmckfhaaGreatDoor.Lay
