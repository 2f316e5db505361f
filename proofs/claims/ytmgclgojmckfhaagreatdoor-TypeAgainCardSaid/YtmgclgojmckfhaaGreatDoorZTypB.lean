/-
  The document's small functions over states: Take, Bad, Is, Peek, Starts, Want. Condition: what the document's Next does (RefNext), and sizes that are borne.
-/
import Derived.Test.YtmgclgojmckfhaaGreatDoorZTypA
import Derived.Test.YtmgclgojmckfhaaGreatDoorZLvs
import Derived.Deep.MidRow
namespace Go.Proofs.YtmgclgojmckfhaaGreatDoor.Typ
open Tks Tre Go.RowKit
open Lay (Sx StV Fit9 nextS NextOut tkV9)
set_option linter.unusedSimpArgs false
set_option linter.unusedVariables false

def stB (tv : Value) (a : Int) (ov : Value) (wt : Int) : Obj := .cells #[tv, .int .i64 a, ov, .int .i64 wt] 33
def tkB (t : Tk) : Obj := .cells #[.int .i64 t.kind, .string t.text, .int .i64 t.line, .int .i64 t.col] 41
theorem four_st {W : World} {B : Nat} {tv ov : Value} {a wt : Int} (q : Lies W B (stB tv a ov wt)) : W.cell? ⟨B, 0, none⟩ = some tv ∧ W.cell? ⟨B, 1, none⟩ = some (.int .i64 a) ∧ W.cell? ⟨B, 2, none⟩ = some ov ∧ W.cell? ⟨B, 3, none⟩ = some (.int .i64 wt) :=
  ⟨(Lies.cell q 0).trans rfl, (Lies.cell q 1).trans rfl, (Lies.cell q 2).trans rfl, (Lies.cell q 3).trans rfl⟩
theorem four_tk {W : World} {B : Nat} {t : Tk} (q : Lies W B (tkB t)) : W.cell? ⟨B, 0, none⟩ = some (.int .i64 t.kind) ∧ W.cell? ⟨B, 1, none⟩ = some (.string t.text) ∧ W.cell? ⟨B, 2, none⟩ = some (.int .i64 t.line) ∧ W.cell? ⟨B, 3, none⟩ = some (.int .i64 t.col) :=
  ⟨(Lies.cell q 0).trans rfl, (Lies.cell q 1).trans rfl, (Lies.cell q 2).trans rfl, (Lies.cell q 3).trans rfl⟩
theorem Mv.refl (w : World) (v : Value) : Mv w w v v := ⟨⟨rfl, rfl, rfl, Nat.le_refl _, fun _ _ _ => rfl⟩, .inl rfl⟩
theorem Mv.trans {a b c : World} {u v x : Value} (h : Mv a b u v) (k : Mv b c v x) : Mv a c u x := by
  refine ⟨⟨k.grown.os.trans h.grown.os, k.grown.tape.trans h.grown.tape, k.grown.output.trans h.grown.output, Nat.le_trans h.grown.size k.grown.size, fun j hj hne => ?_⟩, ?_⟩
  · refine (k.grown.block j (Nat.lt_of_lt_of_le hj h.grown.size) ?_).trans (h.grown.block j hj hne)
    rcases h.own with q | ⟨m, q, hm⟩
    · rw [q]
      exact hne
    · rw [q]
      intro e
      injection e with e
      omega
  · rcases k.own with q | ⟨m, q, hm⟩
    · rcases h.own with q2 | ⟨m, q2, hm⟩
      · exact .inl (q.trans q2)
      · exact .inr ⟨m, q.trans q2, hm⟩
    · exact .inr ⟨m, q, Nat.le_trans h.grown.size hm⟩
theorem Mv.ne {a b : World} {u v : Value} (h : Mv a b u v) {M : Nat} (h1 : u.ownBlock ≠ some M) (hM : M < a.heap.size) : v.ownBlock ≠ some M := by
  intro e
  rcases h.own with q | ⟨k, q, hk⟩
  · exact h1 (q ▸ e)
  · rw [q] at e
    injection e with e
    omega
theorem Mv.after {a b c : World} {u v : Value} (h : Mv a b u v) (k : Below b.heap.size b c) : Mv a c u v :=
  h.trans ⟨⟨k.os, k.tape, k.output, k.size, fun j hj _ => k.block j hj⟩, .inl rfl⟩
theorem Mv.set {a b : World} {u v : Value} (h : Mv a b u v) {p : Addr} (hp : a.heap.size ≤ p.block) (x : Value) : Mv a (b.setCell p x) u v :=
  ⟨⟨h.grown.os, h.grown.tape, h.grown.output, by rw [World.size_setCell]; exact h.grown.size, fun j hj hne => (Below.heap_setCell _ _ _ _ (by omega)).trans (h.grown.block j hj hne)⟩, h.own⟩
theorem Mv.set4 {a b : World} {u v : Value} (h : Mv a b u v) {S : Nat} (hS : a.heap.size ≤ S) (x y p q : Value) : Mv a (Lay.set4 b S x y p q) u v :=
  (((h.set (p := ⟨S, 0, none⟩) hS x).set (p := ⟨S, 1, none⟩) hS y).set (p := ⟨S, 2, none⟩) hS p).set (p := ⟨S, 3, none⟩) hS q
/-- Blocks of which P holds, those of a list left out. -/
def Pm (P : Nat → Prop) (l : List Nat) (b : Nat) : Prop := P b ∧ b ∉ l
theorem Pm.of {P : Nat → Prop} {l : List Nat} {n m : Nat} (hP : ∀ b, n ≤ b → P b) (hl : ∀ x ∈ l, x < m) (hn : n ≤ m) : ∀ b, m ≤ b → Pm P l b := fun b hb => ⟨hP b (by omega), fun h => by have := hl b h; omega⟩
/-- What a row and a state want of the blocks that a call may make. -/
theorem Pxm.of {P : Nat → Prop} {v : Value} {l : List Nat} {n m : Nat} (hP : ∀ b, n ≤ b → P b) (hl : ∀ x ∈ l, x < m) (hv : ∀ b, v.ownBlock = some b → b < m) (hn : n ≤ m) : ∀ b, m ≤ b → Px (Pm P l) v b :=
  fun b hb => ⟨Pm.of hP hl hn b hb, fun e => by have := hv b e; omega⟩
theorem StOn.intox {w X : World} {P : Nat → Prop} {v tv ov : Value} {s : Sx} {l : List Nat} (h : StOn w (Px P v) tv ov s) (hb : Below w.heap.size w X) (hl : ∀ x ∈ l, w.heap.size ≤ x) : StOn X (Px (Pm P l) v) tv ov s :=
  h.kept hb.size (fun b hlt hp => ⟨hb.block b hlt, ⟨hp.1, fun hm => by have := hl b hm; omega⟩, hp.2⟩)
theorem KOn.intox {w X : World} {P : Nat → Prop} {v kv : Value} {k : Fo} {l : List Nat} (h : KOn w (Px P v) kv k) (hb : Below w.heap.size w X) (hl : ∀ x ∈ l, w.heap.size ≤ x) : KOn X (Px (Pm P l) v) kv k :=
  h.kept hb.size (fun b hlt hp => ⟨hb.block b hlt, ⟨hp.1, fun hm => by have := hl b hm; omega⟩, hp.2⟩)
theorem NdP.into {w X : World} {P : Nat → Prop} {B : Nat} {v : Value} {l : List Nv} {ls : List Nat} (h : NdP w B P v l) (hb : Below w.heap.size w X) (hl : ∀ x ∈ ls, w.heap.size ≤ x) : NdP X B (Pm P ls) v l :=
  (h.less (P' := Pm P ls) (fun b hlt hp => ⟨hp, fun hm => by have := hl b hm; omega⟩)).below hb (Nat.le_refl _)
theorem foL_push (l : List Nv) (x : Rd) (v : Value) : foL (l ++ [⟨x.h, x.k, v⟩]) = pushF (foL l) x := foL_app l [⟨x.h, x.k, v⟩]
theorem four_fr {W : World} {B : Nat} {tv ov : Value} {a wt : Int} (q : Lies W B (stB tv a ov wt)) : W.frozen? ⟨B, 0, none⟩ = false ∧ W.frozen? ⟨B, 1, none⟩ = false ∧ W.frozen? ⟨B, 2, none⟩ = false ∧ W.frozen? ⟨B, 3, none⟩ = false := ⟨q.free 0, q.free 1, q.free 2, q.free 3⟩
theorem set4_lies {W : World} {B : Nat} {tv ov : Value} {a wt : Int} (q : Lies W B (stB tv a ov wt)) (tv' ov' : Value) (a' wt' : Int) : Lies (Lay.set4 W B tv' (.int .i64 a') ov' (.int .i64 wt')) B (stB tv' a' ov' wt') :=
  Lies.put (Lies.put (Lies.put (Lies.put q 0 _) 1 _) 2 _) 3 _
theorem set4_keep {W : World} {B k : Nat} (h : k ≠ B) (x y p q : Value) : (Lay.set4 W B x y p q).heap[k]? = W.heap[k]? := by
  unfold Lay.set4
  rw [Below.heap_setCell _ _ _ _ h, Below.heap_setCell _ _ _ _ h, Below.heap_setCell _ _ _ _ h, Below.heap_setCell _ _ _ _ h]
theorem set4_size {W : World} {B : Nat} (x y p q : Value) : (Lay.set4 W B x y p q).heap.size = W.heap.size := by
  unfold Lay.set4
  rw [World.size_setCell, World.size_setCell, World.size_setCell, World.size_setCell]
theorem set4_below {n B : Nat} {W W1 : World} (h : Below n W W1) (hB : n ≤ B) (x y p q : Value) : Below n W (Lay.set4 W1 B x y p q) :=
  (((h.setCell (p := ⟨B, 0, none⟩) hB x).setCell (p := ⟨B, 1, none⟩) hB y).setCell (p := ⟨B, 2, none⟩) hB p).setCell (p := ⟨B, 3, none⟩) hB q
theorem StOn.into {w X : World} {P : Nat → Prop} {tv ov : Value} {s : Sx} {l : List Nat} (h : StOn w P tv ov s) (hb : Below w.heap.size w X) (hl : ∀ x ∈ l, w.heap.size ≤ x) : StOn X (Pm P l) tv ov s :=
  h.kept hb.size (fun b hlt hp => ⟨hb.block b hlt, hp, fun hm => by have := hl b hm; omega⟩)
theorem KOn.into {w X : World} {P : Nat → Prop} {v : Value} {k : Fo} {l : List Nat} (h : KOn w P v k) (hb : Below w.heap.size w X) (hl : ∀ x ∈ l, w.heap.size ≤ x) : KOn X (Pm P l) v k :=
  h.kept hb.size (fun b hlt hp => ⟨hb.block b hlt, hp, fun hm => by have := hl b hm; omega⟩)
end Go.Proofs.YtmgclgojmckfhaaGreatDoor.Typ
/-
  The document's Take, Bad, Is, Peek over states. Conditions: what the document's Next does, and sizes that are borne.
-/
namespace Go.Proofs.YtmgclgojmckfhaaGreatDoor.Typ
open Tks Tre Go.RowKit
open Lay (Sx StV Fit9 nextS NextOut tkV9 IntArg)
set_option linter.unusedSimpArgs false
set_option linter.unusedVariables false

end Go.Proofs.YtmgclgojmckfhaaGreatDoor.Typ
/-
  The document's Bad, Is, Peek over states. Conditions: what the document's Next does, and sizes that are borne.
-/
namespace Go.Proofs.YtmgclgojmckfhaaGreatDoor.Typ
open Tks Tre Go.RowKit
open Lay (Sx StV Fit9 nextS NextOut tkV9 IntArg)
set_option linter.unusedSimpArgs false
set_option linter.unusedVariables false

theorem res_tk {fn : Func} {c : Tmp} (hf : fn.results = #[.cell c 41]) {tmps : Array Value} {w : World} {B : Nat} {t : Tk} (hc : tmps.getD c undef = .pointer (some ⟨B, 0, none⟩)) (hl : Lies w B (tkB t)) :
    (results fn tmps).run Tryz.prog w = .ok (tkV9 t) w := by
  obtain ⟨k0, k1, k2, k3⟩ := four_tk hl
  have hc2 : tmps[c]?.getD undef = .pointer (some ⟨B, 0, none⟩) := by
    rw [← Array.getD_eq_getD_getElem?]
    exact hc
  unfold tkV9
  simp [results, hf, hc2, go_sem, k0, k1, k2, k3]
end Go.Proofs.YtmgclgojmckfhaaGreatDoor.Typ
/-
  The document's Want over states; what reads next. Conditions: what the document's Next does, and sizes that are borne.
-/
namespace Go.Proofs.YtmgclgojmckfhaaGreatDoor.Typ
open Tks Tre Go.RowKit
open Lay (Sx StV Fit9 nextS NextOut tkV9 IntArg)
set_option linter.unusedSimpArgs false
set_option linter.unusedVariables false

end Go.Proofs.YtmgclgojmckfhaaGreatDoor.Typ
/-
  The document's Commas0: a Head that ends here. Conditions: what the document's Next does, and sizes that are borne.
-/
namespace Go.Proofs.YtmgclgojmckfhaaGreatDoor.Typ
open Tks Tre Go.RowKit
open Lay (Sx StV Fit9 nextS NextOut tkV9 IntArg)
set_option linter.unusedSimpArgs false
set_option linter.unusedVariables false

theorem NdP.set4 {W : World} {B : Nat} {P : Nat → Prop} {v : Value} {l : List Nv} {S : Nat} (h : NdP W B P v l) (hS : ∀ b, P b → b ≠ S) (x y p q : Value) : NdP (Lay.set4 W S x y p q) B P v l :=
  h.kept (by rw [set4_size]; exact Nat.le_refl _) (fun b hb hp => set4_keep (by
    rcases hp with hp | hp
    · exact hS b (h.own b hp)
    · exact hS b hp.1) ..)
theorem StOn.set4 {W : World} {P : Nat → Prop} {tv ov : Value} {s : Sx} {S : Nat} (h : StOn W P tv ov s) (hS : ∀ b, P b → b ≠ S) (x y p q : Value) : StOn (Lay.set4 W S x y p q) P tv ov s :=
  h.kept (by rw [set4_size]; exact Nat.le_refl _) (fun b hb hp => ⟨set4_keep (hS b hp) .., hp⟩)
theorem KOn.set4 {W : World} {P : Nat → Prop} {v : Value} {k : Fo} {S : Nat} (h : KOn W P v k) (hS : ∀ b, P b → b ≠ S) (x y p q : Value) : KOn (Lay.set4 W S x y p q) P v k :=
  h.kept (by rw [set4_size]; exact Nat.le_refl _) (fun b hb hp => ⟨set4_keep (hS b hp) .., hp⟩)
theorem set4_other {W : World} {S b : Nat} {o : Obj} (h : Lies W b o) (hb : b ≠ S) (x y p q : Value) : Lies (Lay.set4 W S x y p q) b o := (set4_keep hb x y p q).trans h
theorem closeR_eq (kind : Int) (c : UInt8) (l : Fo) (s : Sx) : closeR kind c l s = if (wantR s 15 [c]).e = 0 then ⟨nodeH kind, pushF l (wantR s 15 [c]), (wantR s 15 [c]).s, 0⟩ else wantR s 15 [c] := rfl
end Go.Proofs.YtmgclgojmckfhaaGreatDoor.Typ
/-
  The document's Commas: a Head of brackets with commas. Conditions: what the document's Next does, and sizes that are borne.
-/
namespace Go.Proofs.YtmgclgojmckfhaaGreatDoor.Typ
open Tks Tre Go.RowKit
open Lay (Sx StV Fit9 nextS NextOut tkV9 IntArg)
set_option linter.unusedSimpArgs false
set_option linter.unusedVariables false

/-- How much is left of a state. -/
def lf (s : Sx) : Nat := Lay.left s.toks s.at_.toNat s.opn s.wait
theorem step_less {s : Sx} (h : er s = 0) (hk : (tk s).kind ≠ 21) : lf (nx s) < lf s := by
  unfold lf nx er tk at *
  cases hok : Lay.okB s with
  | false =>
    unfold nextS at h
    rw [if_neg (by rw [hok]; decide)] at h
    exact absurd h (by decide)
  | true =>
    obtain ⟨n, hn, ok⟩ := (Lay.okB_iff s).1 hok
    unfold nextS at h hk ⊢
    rw [if_pos hok] at h hk ⊢
    dsimp only at h hk ⊢
    rw [hn, Int.toNat_natCast] at h hk ⊢
    rw [Int.toNat_natCast]
    exact Lay.next_less ok h hk
theorem is_less {s : Sx} {k : Int} {x : List UInt8} (h : isR s k x = true) (hk : k ≠ 21) : (takeR s).e = 0 ∧ (takeR s).s = nx s ∧ lf (takeR s).s < lf s := by
  obtain ⟨h1, h2⟩ := is_take h
  have e : takeR s = ⟨leafH (tk s), .nil, nx s, 0⟩ := if_pos h1
  refine ⟨h2, by rw [e], ?_⟩
  rw [e]
  refine step_less h1 ?_
  unfold isR at h
  simp only [Bool.and_eq_true, beq_iff_eq] at h
  rw [h.2.1]
  exact hk
end Go.Proofs.YtmgclgojmckfhaaGreatDoor.Typ
/-
  The document's round: brackets that end at once, or behind commas or an arrow. Conditions: what the document's Next and Type do, and sizes that are borne.
-/
namespace Go.Proofs.YtmgclgojmckfhaaGreatDoor.Typ
open Tks Tre Go.RowKit
open Lay (Sx StV Fit9 nextS NextOut tkV9 IntArg)
set_option linter.unusedSimpArgs false
set_option linter.unusedVariables false

end Go.Proofs.YtmgclgojmckfhaaGreatDoor.Typ
/-
  The document's round: brackets that end at once, or behind commas or an arrow. Conditions: what the document's Next and Type do, and sizes that are borne.
-/
namespace Go.Proofs.YtmgclgojmckfhaaGreatDoor.Typ
open Tks Tre Go.RowKit
open Lay (Sx StV Fit9 nextS NextOut tkV9 IntArg)
set_option linter.unusedSimpArgs false
set_option linter.unusedVariables false

end Go.Proofs.YtmgclgojmckfhaaGreatDoor.Typ
/-
  The document's round: a type or more of them. Conditions: what the document's Next and Type do, and sizes that are borne.
-/
namespace Go.Proofs.YtmgclgojmckfhaaGreatDoor.Typ
open Tks Tre Go.RowKit
open Lay (Sx StV Fit9 nextS NextOut tkV9 IntArg)
set_option linter.unusedSimpArgs false
set_option linter.unusedVariables false

theorem lv_less {s t : Sx} {l : List Tk} (h : Steps s l t) : lf t ≤ lf s := by
  induction h with
  | nil s => exact Nat.le_refl _
  | cons e k _ ih => exact Nat.le_trans ih (Nat.le_of_lt (step_less e k))
end Go.Proofs.YtmgclgojmckfhaaGreatDoor.Typ
/-
  The document's round, whatever stands behind the bracket. Conditions: what the document's Next and Type do, and sizes that are borne.
-/
namespace Go.Proofs.YtmgclgojmckfhaaGreatDoor.Typ
open Tks Tre Go.RowKit
open Lay (Sx StV Fit9 nextS NextOut tkV9 IntArg)
set_option linter.unusedSimpArgs false
set_option linter.unusedVariables false

end Go.Proofs.YtmgclgojmckfhaaGreatDoor.Typ
/-
  The document's atom: what is no bracket, or no atom. Conditions: what the document's Next and Type do, and sizes that are borne.
-/
namespace Go.Proofs.YtmgclgojmckfhaaGreatDoor.Typ
open Tks Tre Go.RowKit
open Lay (Sx StV Fit9 nextS NextOut tkV9 IntArg)
set_option linter.unusedSimpArgs false
set_option linter.unusedVariables false

theorem take_ok {s : Sx} (h : (takeR s).e = 0) : takeR s = ⟨leafH (tk s), .nil, nx s, 0⟩ := if_pos (take_e h)
end Go.Proofs.YtmgclgojmckfhaaGreatDoor.Typ
/-
  The document's atom: round brackets. Conditions: what the document's Next and Type do, and sizes that are borne.
-/
namespace Go.Proofs.YtmgclgojmckfhaaGreatDoor.Typ
open Tks Tre Go.RowKit
open Lay (Sx StV Fit9 nextS NextOut tkV9 IntArg)
set_option linter.unusedSimpArgs false
set_option linter.unusedVariables false

theorem StOn.lit {w : World} {P : Nat → Prop} {tv ov : Value} {s : Sx} (h : StOn w P tv ov s) (o : Obj) (n c : Nat) : StOn (w.alloc o) (Px P (.slice (some ⟨w.heap.size, 0, none⟩) n c)) tv ov s :=
  h.kept (below_one w o).size (fun b hb hp => ⟨(below_one w o).block b hb, hp, fun e => by
    have e2 : w.heap.size = b := by simpa [Value.ownBlock] using e
    omega⟩)
theorem KOn.lit {w : World} {P : Nat → Prop} {v : Value} {k : Fo} (h : KOn w P v k) (o : Obj) (n c : Nat) : KOn (w.alloc o) (Px P (.slice (some ⟨w.heap.size, 0, none⟩) n c)) v k :=
  h.kept (below_one w o).size (fun b hb hp => ⟨(below_one w o).block b hb, hp, fun e => by
    have e2 : w.heap.size = b := by simpa [Value.ownBlock] using e
    omega⟩)
theorem nx_lf {N : Nat} {s : Sx} (h : er s = 0) (hf : Fits N s) : lf (nx s) ≤ 6 * N + 2 := by
  have hf2 := fits_next hf
  unfold lf
  cases hok : Lay.okB s with
  | false =>
    unfold er nextS at h
    rw [if_neg (by rw [hok]; decide)] at h
    exact absurd h (by decide)
  | true =>
    obtain ⟨n, hn, ok⟩ := (Lay.okB_iff s).1 hok
    have ok2 := (Lay.next_ok ok).1
    have e : (nx s).wait = (Lay.nextL s.toks n s.opn s.wait).wait := by
      unfold nx nextS
      rw [if_pos hok, hn, Int.toNat_natCast]
    have h1 := ok2.wlo
    have h2 := hf2.1
    have h3 := hf2.2
    unfold Lay.left
    rw [e]
    omega
theorem one_len (a : Nv) : ([a] : List Nv).length ≤ maxLen := by
  unfold maxLen
  simp
end Go.Proofs.YtmgclgojmckfhaaGreatDoor.Typ
/-
  Rows just laid, in a call of its own. No program is run here.
-/
namespace Go.Proofs.YtmgclgojmckfhaaGreatDoor.Typ
open Tks Tre Go.RowKit
open Lay (Sx StV Fit9 nextS NextOut tkV9 IntArg)
set_option linter.unusedSimpArgs false
set_option linter.unusedVariables false

theorem Mv.lit {w w4 : World} (h : Below w.heap.size w w4) (o : Obj) (n c : Nat) : Mv w (w4.alloc o) (.slice none 0 0) (.slice (some ⟨w4.heap.size, 0, none⟩) n c) := by
  have b := afterL h (below_one w4 o)
  exact ⟨⟨b.os, b.tape, b.output, b.size, fun k hk _ => b.block k hk⟩, .inr ⟨w4.heap.size, rfl, h.size⟩⟩
theorem Mv.bel {w Z : World} {v : Value} (h : Mv w Z (.slice none 0 0) v) : Below w.heap.size w Z :=
  ⟨h.grown.os, h.grown.tape, h.grown.output, h.grown.size, fun k hk => h.grown.block k hk (by simp [Value.ownBlock])⟩
end Go.Proofs.YtmgclgojmckfhaaGreatDoor.Typ
/-
  The document's row: atoms in a row. Conditions: what the document's Next and atom do, and sizes that are borne.
-/
namespace Go.Proofs.YtmgclgojmckfhaaGreatDoor.Typ
open Tks Tre Go.RowKit
open Lay (Sx StV Fit9 nextS NextOut tkV9 IntArg)
set_option linter.unusedSimpArgs false
set_option linter.unusedVariables false

theorem rowF_err (A : Sx → Rd) (l : Fo) {x : Rd} (h : x.e ≠ 0) : ∀ f, rowF A f l x = x
  | 0 => if_neg h
  | f + 1 => if_neg h
theorem NdP.set6 {W : World} {C : Nat} {P : Nat → Prop} {u : Value} {l : List Nv} {B : Nat} (q : NdP W C P u l) (hS : ∀ b, P b → b ≠ B) (a b c d e f : Value) : NdP (set6 W B a b c d e f) C P u l :=
  q.kept (by rw [set6_size]; exact Nat.le_refl _) (fun b hb hp => set6_keep W (by
    rcases hp with hp | hp
    · exact hS b (q.own b hp)
    · exact hS b hp.1) ..)
theorem StOn.set6 {W : World} {P : Nat → Prop} {ta oa : Value} {s : Sx} {B : Nat} (q : StOn W P ta oa s) (hS : ∀ b, P b → b ≠ B) (a b c d e f : Value) : StOn (set6 W B a b c d e f) P ta oa s :=
  q.kept (by rw [set6_size]; exact Nat.le_refl _) (fun b hb hp => ⟨set6_keep W (hS b hp) .., hp⟩)
theorem steps_ne {s t : Sx} {l : List Tk} (h : Steps s l t) (hl : l ≠ []) : er s = 0 ∧ ∃ m, Steps (nx s) m t := by
  cases h with
  | nil => exact absurd rfl hl
  | cons e k h => exact ⟨e, _, h⟩
/-- After a reading that took something not much is left. -/
theorem lv_lf {N : Nat} {s t : Sx} {l : List Tk} (hf : Fits N s) (h : Steps s l t) (hl : l ≠ []) : lf t ≤ 6 * N + 2 := by
  obtain ⟨e, m, h2⟩ := steps_ne h hl
  exact Nat.le_trans (lv_less h2) (nx_lf e hf)
theorem lv_lt {s t : Sx} {l : List Tk} (h : Steps s l t) (hl : l ≠ []) : lf t < lf s := by
  cases h with
  | nil => exact absurd rfl hl
  | cons e k h => exact Nat.lt_of_le_of_lt (lv_less h) (step_less e k)
/-- Reads something wherever it goes well. -/
def Ne (A : Sx → Rd) : Prop := ∀ s, (A s).e = 0 → leavesN (A s).h (A s).k ≠ []
end Go.Proofs.YtmgclgojmckfhaaGreatDoor.Typ
